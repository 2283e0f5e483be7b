/- Several texts in one, in their order. -/
import Derived.Test.YtdibmepjbabnnabGreatDoorPart2
import Derived.Test.YtdibmepjbabnnabGreatDoorPart3
import Derived.Deep.QuietTactic
import Derived.BigQuiet
import Derived.Test.YtdibmepjbabnnabGreatDoorPart4
import Derived.Deep.AppendLies
import Derived.Laws.AppendOwnNone
import Derived.Deep.RegionLaw
import Derived.Deep.DrawnRows
import Derived.Deep.RegionHeld3
import Derived.Test.YtdibmepjbabnnabGreatDoorProg
import Derived.Test.YtdibmepjbabnnabGreatDoorPart1
/- The cursor of a draw: what spec.l1Byte and spec.l1Below answer and leave. -/
namespace Go.Proofs.YtdibmepjbabnnabGreatDoor
open Go.RowKit

/-- A cursor over the bytes zs lies in block B. -/
def CurAt (w : World) (B : Nat) (zs : List Int) : Prop :=
  ∃ (a : Option Addr) (c i : Nat) (h : Int), w.heap[B]? = some (.cells #[.slice a zs.length c, .int .i64 i, .int .i64 h] 53 (0, 0)) ∧ i ≤ zs.length ∧ Reads w a zs ∧ (zs ≠ [] → ∀ b off, a = some ⟨b, off, none⟩ → b < B)

theorem cell_of3 {w : World} {B : Nat} {v0 v1 v2 : Value} {t : TypeId} (h : w.heap[B]? = some (.cells #[v0, v1, v2] t (0, 0))) :
    w.cell? ⟨B, 0, none⟩ = some v0 ∧ w.cell? ⟨B, 1, none⟩ = some v1 ∧ w.cell? ⟨B, 2, none⟩ = some v2 ∧ (∀ o, w.frozen? ⟨B, o, none⟩ = false) := by
  refine ⟨?_, ?_, ?_, fun o => ?_⟩
  · simp [World.cell?, h]
  · simp [World.cell?, h]
  · simp [World.cell?, h]
  · simp [World.frozen?, h]

theorem set_of3 {w : World} {B : Nat} {v0 v1 v2 u : Value} {t : TypeId} (h : w.heap[B]? = some (.cells #[v0, v1, v2] t (0, 0))) :
    (w.setCell ⟨B, 1, none⟩ u).heap[B]? = some (.cells #[v0, u, v2] t (0, 0)) ∧ (w.setCell ⟨B, 2, none⟩ u).heap[B]? = some (.cells #[v0, v1, u] t (0, 0)) := by
  constructor
  · rw [heap_setCell_same w B 1 _ t u h]; simp
  · rw [heap_setCell_same w B 2 _ t u h]; simp

theorem grown_set (w : World) (B o : Nat) (u : Value) : w.grownBy (w.setCell ⟨B, o, none⟩ u) (some B) :=
  ⟨rfl, rfl, rfl, by simp, fun k _ hk => heap_setCell_other w ⟨B, o, none⟩ k u (fun e => hk (by simp [e]))⟩

theorem grown_drew_set (w : World) (n B o : Nat) (u : Value) : w.grownBy ((w.drewN n).setCell ⟨B, o, none⟩ u) (some B) :=
  ⟨rfl, rfl, rfl, by simp, fun k _ hk => heap_setCell_other (w.drewN n) ⟨B, o, none⟩ k u (fun e => hk (by simp [e]))⟩

theorem Reads.grown {w w' : World} {a : Option Addr} {zs : List Int} {B : Nat} (h : Reads w a zs) (hg : w.grownBy w' (some B)) (hne : zs ≠ [] → ∀ b off, a = some ⟨b, off, none⟩ → b ≠ B) : Reads w' a zs := by
  refine ⟨h.1, fun e => ?_⟩
  obtain ⟨b, off, ha, hc⟩ := h.2 e
  refine ⟨b, off, ha, fun i hi => hg.cell (hc i hi) ?_⟩
  intro he
  exact hne e b off ha (Option.some.inj he)

theorem CurAt.lt {w : World} {B : Nat} {zs : List Int} (h : CurAt w B zs) : B < w.heap.size := by
  obtain ⟨a, c, i, h, hh, _⟩ := h
  exact (Array.getElem?_eq_some_iff.1 hh).1

theorem CurAt.kept {w w' : World} {B : Nat} {zs : List Int} {row : Option Nat} (h : CurAt w B zs) (hg : w.grownBy w' row) (hrow : ∀ k, row = some k → B < k) : CurAt w' B zs := by
  have hB := h.lt
  obtain ⟨a, c, i, h, hh, hi, hr, hlt⟩ := h
  refine ⟨a, c, i, h, ?_, hi, ⟨hr.1, fun e => ?_⟩, hlt⟩
  · rw [hg.block B hB (fun e => by have := hrow B e.symm; omega)]; exact hh
  · obtain ⟨b, off, ha, hc⟩ := hr.2 e
    refine ⟨b, off, ha, fun j hj => hg.cell (hc j hj) ?_⟩
    intro he
    have h1 := hlt e b off ha
    have h2 := hrow b he.symm
    omega

theorem CurAt.alloc {w : World} {B : Nat} {zs : List Int} (h : CurAt w B zs) (o : Obj) : CurAt (w.alloc o) B zs := h.kept (World.grownBy_alloc w o none) (fun k e => by cases e)

theorem CurAt.below {w w' : World} {B : Nat} {zs : List Int} (h : CurAt w B zs) (hb : Below w.heap.size w w') : CurAt w' B zs :=
  h.kept (row := none) ⟨hb.os, hb.tape, hb.output, hb.size, fun k hk _ => hb.block k hk⟩ (fun k e => by cases e)

theorem grownBy_new {w w1 w2 : World} {r row : Option Nat} (h : w.grownBy w1 r) (hg : w1.grownBy w2 row) (hrow : ∀ k, row = some k → w.heap.size ≤ k) : w.grownBy w2 r :=
  ⟨hg.os.trans h.os, hg.tape.trans h.tape, hg.output.trans h.output, Nat.le_trans h.size hg.size, fun k hk hr => (hg.block k (Nat.lt_of_lt_of_le hk h.size) (fun e => by have := hrow k e.symm; omega)).trans (h.block k hk hr)⟩

theorem i64_and255 (n : Int) : bits .and .i64 n 255 = n % 256 := by
  have h1 : (BitVec.ofInt 64 255).toNat = 2 ^ 8 - 1 := by decide
  have key : (BitVec.ofInt 64 n &&& BitVec.ofInt 64 255).toNat = (n % ((2 ^ 64 : Nat) : Int)).toNat % 2 ^ 8 := by
    rw [BitVec.toNat_and, BitVec.toNat_ofInt, h1, Nat.and_two_pow_sub_one_eq_mod]
  show IntKind.i64.wrap ((BitVec.ofInt 64 n &&& BitVec.ofInt 64 255).toNat : Nat) = n % 256
  rw [key, IntKind.wrap_i64]
  omega

theorem ret_nat {a : Int} (h0 : 0 ≤ a) : Ending.returned (.int .i64 a) = .returned (.int .i64 ((a.toNat : Nat) : Int)) := by rw [Int.toNat_of_nonneg h0]

set_option maxHeartbeats 1000000 in
theorem l1Byte_any (B : Nat) (zs : List Int) (w : World) (hc : CurAt w B zs) (hl : zs.length ≤ 70368744177664) :
    Calls Tryz.prog 55 #[.pointer (some ⟨B, 0, none⟩)] w fun e w' => ∃ x : Nat, e = .returned (.int .i64 x) ∧ x < 256 ∧ CurAt w' B zs ∧ w.grownBy w' (some B) := by
  obtain ⟨a, c, i, h, hh, hi, hr, hlt0⟩ := hc
  have hne : zs ≠ [] → ∀ b off, a = some ⟨b, off, none⟩ → b ≠ B := fun h b off e => Nat.ne_of_lt (hlt0 h b off e)
  obtain ⟨c0, c1, c2, hf⟩ := cell_of3 hh
  have hf2 := hf 2
  clear hf
  have ha := i64_and255
  go_enter Tryz.func55, Tryz.ntmps55
  go_wp2
  generalize wrap64 (wrap64 (h * 6364136223846793005) + 1442695040888963407) = h1
  have hh1 := (set_of3 (u := .int .i64 h1) hh).2
  have hg1 := grown_set w B 2 (.int .i64 h1)
  have hr1 := hr.grown hg1 hne
  clear c0 c1 c2 hf2 hh hr
  generalize w.setCell ⟨B, 2, none⟩ (.int .i64 h1) = w1 at *
  obtain ⟨c0, c1, c2, hf⟩ := cell_of3 hh1
  have hf1 := hf 1
  clear hf
  go_quiet (fail)
  go_wp2
  have hxb : 0 ≤ bits .xor .i64 (h1 / 8589934592) (h1 / 140737488355328) % 256 ∧ bits .xor .i64 (h1 / 8589934592) (h1 / 140737488355328) % 256 < 256 := by omega
  generalize bits .xor .i64 (h1 / 8589934592) (h1 / 140737488355328) % 256 = y at *
  by_cases hlt : i < zs.length
  · rcases hr1.cases with rfl | ⟨b, off, rfl, hpos, hcell⟩
    · simp at hlt
    have hck := hcell i hlt
    have hby := bytes_at hr1.byte i
    clear hcell
    generalize zs.getD i 0 = z at *
    go_quiet (fail)
    go_wp2
    go_quiet (fail)
    go_wp2
    go_ret
    refine ⟨((y + z) % 256).toNat, ret_nat (by omega), by omega, ⟨some ⟨b, off, none⟩, c, i + 1, h1, ?_, by omega, ?_, hlt0⟩, ?_⟩
    · exact (set_of3 (u := .int .i64 ((i : Int) + 1)) hh1).1
    · exact hr1.grown (grown_drew_set w1 _ B 1 _) hne
    · exact grownBy_trans hg1 (grown_drew_set w1 _ B 1 _)
  · go_quiet (fail)
    go_wp2
    go_ret
    exact ⟨y.toNat, ret_nat hxb.1, by omega, ⟨a, c, i, h1, hh1, hi, hr1, hlt0⟩, ⟨hg1.os, hg1.tape, hg1.output, hg1.size, hg1.block⟩⟩

set_option maxHeartbeats 400000 in
theorem l1Below_any (B : Nat) (zs : List Int) (n : Int) (w : World) (hc : CurAt w B zs) (hl : zs.length ≤ 70368744177664) (hn : n ≤ 1000000000) :
    Calls Tryz.prog 40 #[.pointer (some ⟨B, 0, none⟩), .int .i64 n] w fun e w' => ∃ x : Nat, e = .returned (.int .i64 x) ∧ (0 < n → (x : Int) < n) ∧ CurAt w' B zs ∧ w.grownBy w' (some B) := by
  by_cases h0 : n ≤ 0
  · go_enter Tryz.func40, Tryz.ntmps40
    go_wp2
    go_ret
    exact ⟨0, rfl, fun h => by omega, hc, World.grownBy.refl _ _⟩
  by_cases h1 : n ≤ 256
  · go_enter Tryz.func40, Tryz.ntmps40
    go_wp2_with fail
    refine (l1Byte_any B zs w hc hl).mono ?_
    rintro e w1 ⟨x, rfl, hx, hc1, hg1⟩
    have hnz : ¬ n = 0 := by omega
    go_wp2
    go_ret
    exact ⟨((x : Int) % n).toNat, ret_nat (Int.emod_nonneg _ hnz), fun h => by have := Int.emod_nonneg (x : Int) hnz; have := Int.emod_lt_of_pos (x : Int) h; omega, hc1, hg1⟩
  · go_enter Tryz.func40, Tryz.ntmps40
    go_wp2_with fail
    refine (l1Byte_any B zs w hc hl).mono ?_
    rintro e w1 ⟨x, rfl, hx, hc1, hg1⟩
    go_wp2_with fail
    refine (l1Byte_any B zs w1 hc1 hl).mono ?_
    rintro e w2 ⟨y, rfl, hy, hc2, hg2⟩
    go_wp2_with fail
    refine (l1Byte_any B zs w2 hc2 hl).mono ?_
    rintro e w3 ⟨z, rfl, hz, hc3, hg3⟩
    have hnz : ¬ n = 0 := by omega
    clear hc hc1 hc2
    go_wp2
    go_ret
    exact ⟨(((x : Int) * 65536 + (y : Int) * 256 + (z : Int)) % n).toNat, ret_nat (Int.emod_nonneg _ hnz), fun h => by have := Int.emod_nonneg ((x : Int) * 65536 + (y : Int) * 256 + (z : Int)) hnz; have := Int.emod_lt_of_pos ((x : Int) * 65536 + (y : Int) * 256 + (z : Int)) h; omega, hc3, grownBy_trans (grownBy_trans hg1 hg2) hg3⟩
end Go.Proofs.YtdibmepjbabnnabGreatDoor

/- The walks of spec.l1Int, l1Bytes and l1New. -/
namespace Go.Proofs.YtdibmepjbabnnabGreatDoor
open Go.RowKit

set_option maxHeartbeats 400000 in
theorem l1Int_any (B : Nat) (zs : List Int) (na : Option Addr) (nc : Nat) (ns : List Int) (w : World) (hc : CurAt w B zs) (hl : zs.length ≤ 70368744177664) (hn : ReadsI w na ns) (hne : ∀ b off, na = some ⟨b, off, none⟩ → b ≠ B) (h1 : 1 ≤ ns.length) (h2 : ns.length ≤ 1000) :
    Calls Tryz.prog 41 #[.pointer (some ⟨B, 0, none⟩), .slice na ns.length nc] w fun e w' => ∃ j : Nat, j < ns.length ∧ e = .returned (.int .i64 (ns.getD j 0)) ∧ CurAt w' B zs ∧ w.grownBy w' (some B) := by
  have HN : Hid (ReadsI w na ns) := hn
  have HNE : Hid (∀ b off, na = some ⟨b, off, none⟩ → b ≠ B) := hne
  obtain ⟨b, off, rfl, _⟩ := hn (by intro e; simp [e] at h1)
  clear hn hne
  go_enter Tryz.func41, Tryz.ntmps41
  go_wp2_with fail
  refine (l1Below_any B zs ns.length w hc hl (by omega)).mono ?_
  rintro e w1 ⟨x, rfl, hx, hc1, hg1⟩
  have hx' : x < ns.length := by have := hx (by omega); omega
  obtain ⟨b', off', hh, hcell⟩ := (HN.out.grown hg1 HNE.out) (by intro e; simp [e] at h1)
  cases hh
  have hcx := hcell x hx'
  clear hcell hx
  generalize hv : ns.getD x 0 = v at *
  have HV : Hid (ns.getD x 0 = v) := hv
  clear hv
  go_wp2
  go_ret
  exact ⟨x, hx', by rw [HV.out]; rfl, hc1, hg1⟩

set_option maxHeartbeats 400000 in
set_option maxRecDepth 100000 in
theorem l1New_any (a : Option Addr) (c : Nat) (zs : List Int) (w : World) (hr : Reads w a zs) (hl : zs.length ≤ 70368744177664) :
    Calls Tryz.prog 13 #[.slice a zs.length c] w fun e w' => e = .returned (.pointer (some ⟨w.heap.size, 0, none⟩)) ∧ CurAt w' w.heap.size zs ∧ Below w.heap.size w w' := by
  have HW : Hid (zs ≠ [] → ∀ b off, a = some ⟨b, off, none⟩ → b < w.heap.size) := by
    intro hne b off e
    obtain ⟨b', off', ha, hcc⟩ := hr.2 hne
    rw [ha] at e
    cases e
    exact block_lt (hcc 0 (List.length_pos_iff.2 hne))
  have HR : Hid (Reads w a zs) := hr
  have fin : ∀ h : Int, CurAt (w.alloc (.cells #[.slice a zs.length c, .int .i64 0, .int .i64 h] 53)) w.heap.size zs := fun h => ⟨a, c, 0, h, heap_alloc_new w _, by omega, HR.out.alloc _, HW.out⟩
  have FIN : Hid (∀ h : Int, CurAt (w.alloc (.cells #[.slice a zs.length c, .int .i64 0, .int .i64 h] 53)) w.heap.size zs) := fin
  clear fin
  rcases hr.cases with rfl | ⟨b, off, rfl, hpos, hcell⟩
  · clear hr
    go_enter Tryz.func13, Tryz.ntmps13
    go_wp2
    refine wp_loop_rounds 1 ?_
    rw [rounds_succ]
    go_wp2
    go_ret
    exact ⟨rfl, FIN.out _, (Below.refl _ _).alloc (Nat.le_refl _) _⟩
  · have hby := hr.byte
    clear hr
    go_enter Tryz.func13, Tryz.ntmps13
    go_wp2
    go_loop [3, 4] (fun hv i => ∃ (k : Nat) (h : Int), k ≤ zs.length ∧ k ≤ 4000 ∧ i = .int .i64 k ∧ hv = .int .i64 h) (fun _ i => 4000 - (intOf i).toNat)
    case atStart => exact ⟨0, _, by omega, by omega, rfl, rfl⟩
    case round =>
      obtain ⟨k, h, hk, hk4, rfl, rfl⟩ := hrel
      by_cases h1 : k < zs.length
      · by_cases h2 : k < 4000
        · have hck := hcell k h1
          have hbk := bytes_at hby k
          clear hcell hby
          generalize zs.getD k 0 = z at *
          go_wp2
          go_round
          case rel => exact ⟨k + 1, _, by omega, by omega, by go_num, rfl⟩
          case measure => simp [intOf]; omega
        · go_wp2
          go_ret
          exact ⟨rfl, FIN.out _, (Below.refl _ _).alloc (Nat.le_refl _) _⟩
      · go_wp2
        go_ret
        exact ⟨rfl, FIN.out _, (Below.refl _ _).alloc (Nat.le_refl _) _⟩
end Go.Proofs.YtdibmepjbabnnabGreatDoor

/- Appending numbers as a step of a region that draws its order; an object in a box of the call. -/
namespace Go.Proofs.YtdibmepjbabnnabGreatDoor
open Go.RowKit

theorem run_append_ints {w : World} (ty : TypeId) (lo hi : Nat) (a : Option Addr) (c : Nat) (xs : List Int) (hown : OwnI w lo hi a c xs)
    (sa : Option Addr) (sc : Nat) (zs : List Int) (hr : ReadsI w sa zs) (hc : sa = none → sc = 0) (hb : xs.length + zs.length ≤ 1099511627776) (hlo : lo ≤ w.heap.size) :
    ∃ a' c' ys w', (Builtin.append_ #[24, 24] ty #[.slice a xs.length c, .slice sa zs.length sc]).run Tryz.prog w = .ok (.slice a' ys.length c') w' ∧ Hid (ys = xs ++ zs) ∧ OwnI w' lo w'.heap.size a' c' ys ∧ w.grownBy w' (Value.slice a xs.length c).ownBlock ∧
      (∀ k, (Value.slice a' ys.length c').ownBlock = some k → (Value.slice a xs.length c).ownBlock = some k ∨ k = w.heap.size) := by
  obtain ⟨i0, hi0, hz0, hz1, hz2⟩ := info_parts Tryz.infoInt
  cases sa with
  | none =>
    have hz : zs = [] := by
      by_cases e : zs = []
      · exact e
      · obtain ⟨b, off, hh, _⟩ := hr e
        cases hh
    subst hz
    have := hc rfl
    subst this
    refine ⟨a, c, xs, w, run_append_owned_none (P := Tryz.prog) (w := w) lo 24 ty 3 i0 1 Tryz.underlying24 hi0 _ _ _ hown.1, (by simp [Hid]), ⟨hown.1, Nat.le_refl _, fun k hk => (hown.1.lt k hk).2⟩, World.grownBy.refl _ _, fun k hk => .inl hk⟩
  | some ad =>
    obtain ⟨v', w', h1, h2, h3, _, h5⟩ := run_append_own_at (P := Tryz.prog) w lo 24 ty 3 i0 (.int .i64 0) 1 8 Tryz.underlying24 hi0 hz0 hz1 hz2 rfl (by decide) _ _ _ hown.1 ad zs.length sc (zs.map (Value.int .i64)) (by simp) (by
      intro j u hj
      have hjl : j < zs.length := by
        by_cases e : j < zs.length
        · exact e
        · simp [List.getElem?_eq_none (Nat.le_of_not_lt e)] at hj
      have hne : zs ≠ [] := by intro e; simp [e] at hjl
      obtain ⟨b, off, hh, hcell⟩ := hr hne
      cases hh
      rw [Addr_add, hcell j hjl]
      simpa [hjl] using hj) (ints_oneCell _ _) (by simp only [maxLen]; omega) (by omega) hlo
    rw [← List.map_append, ← List.length_append] at h2
    have sh : ∃ a' c', v' = .slice a' (xs ++ zs).length c' := by
      rcases h2.2 with ⟨rfl, h0⟩ | ⟨g, cap, cur, rfl, _⟩
      · exact ⟨none, 0, by rw [h0]⟩
      · exact ⟨_, _, rfl⟩
    obtain ⟨a', c', rfl⟩ := sh
    refine ⟨a', c', xs ++ zs, w', h1, rfl, ⟨h2, Nat.le_refl _, fun k hk => (h2.lt k hk).2⟩, h3, fun k hk => ?_⟩
    rcases h5 with h5 | h5
    · exact .inl (by rw [← h5]; exact hk)
    · rw [h5] at hk
      exact .inr (Option.some.inj hk).symm

theorem step_append_ints {w : World} {ops : Array Oper} {o : Oper} {act : Act} {K : Act → World → Prop} {Q : Exit → Act → World → Prop} {E : Prop} (hgd : o.guard = none) (s x : Operand)
    (ho : o.op = .call { callee := .builtin .append, args := #[s, x], argTypes := #[24, 24] })
    (lo hi : Nat) (a : Option Addr) (c : Nat) (xs : List Int) (hs : act.eval s = .slice a xs.length c) (hown : OwnI w lo hi a c xs)
    (sa : Option Addr) (sc : Nat) (zs : List Int) (hx : act.eval x = .slice sa zs.length sc) (hr : ReadsI w sa zs) (hc : sa = none → sc = 0)
    (hb : xs.length + zs.length ≤ 1099511627776) (hlo : lo ≤ w.heap.size)
    (h : ∀ a' c' ys w', Hid (ys = xs ++ zs) → OwnI w' lo w'.heap.size a' c' ys → w.grownBy w' (Value.slice a xs.length c).ownBlock →
      (∀ k, (Value.slice a' ys.length c').ownBlock = some k → (Value.slice a xs.length c).ownBlock = some k ∨ k = w.heap.size) → K (act.put o.dst (.slice a' ys.length c')) w') :
    if Region.wanted o (yielded ops act.tmps) = true then Oper.wp Tryz.prog o act w K Q else E := by
  have hw : Region.wanted o (yielded ops act.tmps) = true := by simp [Region.wanted, hgd]
  rw [if_pos hw]
  obtain ⟨a', c', ys, w', hrun, h1, h2, h3, h4⟩ := run_append_ints (w := w) o.type lo hi a c xs hown sa sc zs hr hc hb hlo
  unfold Oper.wp execOp
  simp only [ho, resolve, invoke, builtin, Sem.run_bind, Sem.run_pure, Result.andThen_ok, List.map_toArray, List.map_cons, List.map_nil, hs, hx, hrun]
  exact h a' c' ys w' h1 h2 h3 h4

/-- An object lies in block Bo; its lists lie from lo on, and the call owns them. -/
structure ObjAt (w : World) (lo Bo : Nat) (o : ObjV) (aI : Option Addr) (cI : Nat) (aR : Option Addr) (cR : Nat) : Prop where
  box : Box w Bo [.int .i64 o.kind, .slice aI o.ints.length cI, .slice aR o.refs.length cR] 26
  own : OwnO w lo w.heap.size aI cI aR cR o
  lt : Bo < lo

theorem OwnO.kept {w w' : World} {lo hi : Nat} {aI : Option Addr} {cI : Nat} {aR : Option Addr} {cR : Nat} {o : ObjV} {B : Nat} (h : OwnO w lo hi aI cI aR cR o) (hg : w.grownBy w' (some B)) (hB : B < lo) : OwnO w' lo w'.heap.size aI cI aR cR o := by
  have h1 := h.ints.kept hg (fun k hk e => by have := (h.ints.lt k hk).1; cases e; omega)
  have h2 := h.refs.kept hg (fun k hk e => by have := (h.refs.lt k hk).1; cases e; omega)
  exact ⟨h1.widen (Nat.le_refl _) h1.2.1 (Nat.le_refl _), h2.widen (Nat.le_refl _) h2.2.1 (Nat.le_refl _), h.apart⟩

theorem ObjAt.kept {w w' : World} {lo Bo : Nat} {aI : Option Addr} {cI : Nat} {aR : Option Addr} {cR : Nat} {o : ObjV} {B : Nat} (h : ObjAt w lo Bo o aI cI aR cR) (hg : w.grownBy w' (some B)) (hB : B < Bo) : ObjAt w' lo Bo o aI cI aR cR :=
  ⟨h.box.block (hg.block Bo h.box.lt (fun e => by cases e; omega)), h.own.kept hg (by have := h.lt; omega), h.lt⟩
theorem ObjAt.alloc {w : World} {lo Bo : Nat} {aI : Option Addr} {cI : Nat} {aR : Option Addr} {cR : Nat} {o : ObjV} (h : ObjAt w lo Bo o aI cI aR cR) (ob : Obj) : ObjAt (w.alloc ob) lo Bo o aI cI aR cR :=
  ⟨h.box.alloc ob, (h.own.below ((Below.refl _ _).alloc (Nat.le_refl _) ob)).widen (Nat.le_refl _) (by simp) (Nat.le_refl _), h.lt⟩
theorem ObjAt.drew {w : World} {lo Bo : Nat} {aI : Option Addr} {cI : Nat} {aR : Option Addr} {cR : Nat} {o : ObjV} (h : ObjAt w lo Bo o aI cI aR cR) : ObjAt w.drew lo Bo o aI cI aR cR :=
  ⟨h.box, h.own.below (Below.refl _ _).drew, h.lt⟩
theorem ObjAt.three {w : World} {lo Bo : Nat} {aI : Option Addr} {cI : Nat} {aR : Option Addr} {cR : Nat} {o : ObjV} (h : ObjAt w lo Bo o aI cI aR cR) :
    w.cell? ⟨Bo, 0, none⟩ = some (.int .i64 o.kind) ∧ w.cell? ⟨Bo, 1, none⟩ = some (.slice aI o.ints.length cI) ∧ w.cell? ⟨Bo, 2, none⟩ = some (.slice aR o.refs.length cR) ∧ w.frozen? ⟨Bo, 0, none⟩ = false ∧ w.frozen? ⟨Bo, 1, none⟩ = false ∧ w.frozen? ⟨Bo, 2, none⟩ = false := h.box.three

theorem Box.grown {w w' : World} {C B : Nat} {vs : List Value} {t : TypeId} (h : Box w C vs t) (hg : w.grownBy w' (some B)) (hne : C ≠ B) : Box w' C vs t := h.block (hg.block C h.lt (fun e => hne (Option.some.inj e)))
theorem CurAt.drew {w : World} {B : Nat} {zs : List Int} (h : CurAt w B zs) : CurAt w.drew B zs := h
theorem grown_drew (w : World) (r : Option Nat) : w.grownBy w.drew r := ⟨rfl, rfl, rfl, Nat.le_refl _, fun _ _ _ => rfl⟩

/-- The lists after an append to the first: the object in its box, the cursor, and all that was there. -/
theorem ObjAt.pushI {w0 w w' : World} {lo Bo B : Nat} {aI : Option Addr} {cI : Nat} {aR : Option Addr} {cR : Nat} {o : ObjV} {zs : List Int} (h : ObjAt w lo Bo o aI cI aR cR) (hc : CurAt w B zs) (hB : B < Bo) (hg0 : w0.grownBy w (some B)) (h0 : w0.heap.size ≤ Bo)
    {a' : Option Addr} {c' : Nat} {ys : List Int} (ho : OwnI w' lo w'.heap.size a' c' ys) (hg : w.grownBy w' (Value.slice aI o.ints.length cI).ownBlock)
    (hat : ∀ k, (Value.slice a' ys.length c').ownBlock = some k → (Value.slice aI o.ints.length cI).ownBlock = some k ∨ k = w.heap.size) :
    (w'.cell? ⟨Bo, 1, none⟩ = some (.slice aI o.ints.length cI) ∧ w'.frozen? ⟨Bo, 1, none⟩ = false) ∧
    ObjAt (w'.setCell ⟨Bo, 1, none⟩ (.slice a' ys.length c')) lo Bo ⟨o.kind, ys, o.refs⟩ a' c' aR cR ∧ CurAt (w'.setCell ⟨Bo, 1, none⟩ (.slice a' ys.length c')) B zs ∧ w0.grownBy (w'.setCell ⟨Bo, 1, none⟩ (.slice a' ys.length c')) (some B) ∧ (∀ b, b < lo → b ≠ Bo → b < w.heap.size → (w'.setCell ⟨Bo, 1, none⟩ (.slice a' ys.length c')).heap[b]? = w.heap[b]?) := by
  have hlt := h.lt
  have hb' : Box w' Bo _ _ := h.box.block (hg.block Bo h.box.lt (fun e => by have := (h.own.ints.lt Bo e.symm).1; omega))
  have hbs := hb'.set 1 (.slice a' ys.length c')
  simp only [List.set] at hbs
  have hgs := grown_set w' Bo 1 (.slice a' ys.length c')
  have hR' := h.own.refs.kept hg (fun k hk e => h.own.apart k e hk)
  have hI2 := ho.kept hgs (fun k hk e => by have := (ho.lt k hk).1; cases e; omega)
  have hR2 := hR'.kept hgs (fun k hk e => by have := (hR'.lt k hk).1; cases e; omega)
  refine ⟨⟨hb'.cell 1 _ rfl, hb'.frozen 1⟩, ⟨hbs, ⟨hI2.widen (Nat.le_refl _) hI2.2.1 (Nat.le_refl _), hR2.widen (Nat.le_refl _) hR2.2.1 (Nat.le_refl _), fun k hk => ?_⟩, hlt⟩, ?_, ?_, ?_⟩
  · rcases hat k hk with e | e
    · exact h.own.apart k e
    · intro e'
      have := (h.own.refs.lt k e').2
      omega
  · exact (hc.kept hg (fun k e => by have := (h.own.ints.lt k e).1; omega)).kept hgs (fun k e => by cases e; omega)
  · exact grownBy_new (grownBy_new hg0 hg (fun k e => by have := (h.own.ints.lt k e).1; omega)) hgs (fun k e => by cases e; omega)
  · intro b hb hn hbl
    rw [hgs.block b (by have := hg.size; omega) (fun e => hn (Option.some.inj e))]
    exact hg.block b hbl (fun e => by have := (h.own.ints.lt b e.symm).1; omega)

theorem ObjAt.pushR {w0 w w' : World} {lo Bo B : Nat} {aI : Option Addr} {cI : Nat} {aR : Option Addr} {cR : Nat} {o : ObjV} {zs : List Int} (h : ObjAt w lo Bo o aI cI aR cR) (hc : CurAt w B zs) (hB : B < Bo) (hg0 : w0.grownBy w (some B)) (h0 : w0.heap.size ≤ Bo)
    {a' : Option Addr} {c' : Nat} {ys : List Int} (ho : OwnI w' lo w'.heap.size a' c' ys) (hg : w.grownBy w' (Value.slice aR o.refs.length cR).ownBlock)
    (hat : ∀ k, (Value.slice a' ys.length c').ownBlock = some k → (Value.slice aR o.refs.length cR).ownBlock = some k ∨ k = w.heap.size) :
    (w'.cell? ⟨Bo, 2, none⟩ = some (.slice aR o.refs.length cR) ∧ w'.frozen? ⟨Bo, 2, none⟩ = false) ∧
    ObjAt (w'.setCell ⟨Bo, 2, none⟩ (.slice a' ys.length c')) lo Bo ⟨o.kind, o.ints, ys⟩ aI cI a' c' ∧ CurAt (w'.setCell ⟨Bo, 2, none⟩ (.slice a' ys.length c')) B zs ∧ w0.grownBy (w'.setCell ⟨Bo, 2, none⟩ (.slice a' ys.length c')) (some B) ∧ (∀ b, b < lo → b ≠ Bo → b < w.heap.size → (w'.setCell ⟨Bo, 2, none⟩ (.slice a' ys.length c')).heap[b]? = w.heap[b]?) := by
  have hlt := h.lt
  have hb' : Box w' Bo _ _ := h.box.block (hg.block Bo h.box.lt (fun e => by have := (h.own.refs.lt Bo e.symm).1; omega))
  have hbs := hb'.set 2 (.slice a' ys.length c')
  simp only [List.set] at hbs
  have hgs := grown_set w' Bo 2 (.slice a' ys.length c')
  have hI' := h.own.ints.kept hg (fun k hk e => h.own.apart k hk e)
  have hR2 := ho.kept hgs (fun k hk e => by have := (ho.lt k hk).1; cases e; omega)
  have hI2 := hI'.kept hgs (fun k hk e => by have := (hI'.lt k hk).1; cases e; omega)
  refine ⟨⟨hb'.cell 2 _ rfl, hb'.frozen 2⟩, ⟨hbs, ⟨hI2.widen (Nat.le_refl _) hI2.2.1 (Nat.le_refl _), hR2.widen (Nat.le_refl _) hR2.2.1 (Nat.le_refl _), fun k hk => ?_⟩, hlt⟩, ?_, ?_, ?_⟩
  · intro e'
    rcases hat k e' with e | e
    · exact h.own.apart k hk e
    · have := (h.own.ints.lt k hk).2
      omega
  · exact (hc.kept hg (fun k e => by have := (h.own.refs.lt k e).1; omega)).kept hgs (fun k e => by cases e; omega)
  · exact grownBy_new (grownBy_new hg0 hg (fun k e => by have := (h.own.refs.lt k e).1; omega)) hgs (fun k e => by cases e; omega)
  · intro b hb hn hbl
    rw [hgs.block b (by have := hg.size; omega) (fun e => hn (Option.some.inj e))]
    exact hg.block b hbl (fun e => by have := (h.own.refs.lt b e.symm).1; omega)
end Go.Proofs.YtdibmepjbabnnabGreatDoor

/- The walk of spec.l2Obj. -/
namespace Go.Proofs.YtdibmepjbabnnabGreatDoor
open Go.RowKit
attribute [local go_sem ↓] Go.wp_at_zero Go.wp_at_succ

set_option maxHeartbeats 4000000 in
set_option maxRecDepth 100000 in
theorem l2Obj_any (B : Nat) (zs : List Int) (w : World) (hc : CurAt w B zs) (hl : zs.length ≤ 70368744177664) :
    Calls Tryz.prog 26 #[.pointer (some ⟨B, 0, none⟩)] w fun e w' => ∃ aI cI aR cR o, e = .returned (.agg #[.int .i64 o.kind, .slice aI o.ints.length cI, .slice aR o.refs.length cR]) ∧ o.ints.length ≤ 3 ∧ o.refs.length ≤ 3 ∧ OwnO w' w.heap.size w'.heap.size aI cI aR cR o ∧ CurAt w' B zs ∧ w.grownBy w' (some B) := by
  have hB := hc.lt
  obtain ⟨W, hW, b0, hbW, hsW⟩ := boxes1 w [.int .i64 0, .slice none 0 0, .slice none 0 0] 26
  have hg0 : w.grownBy W (some B) := ⟨hbW.os, hbW.tape, hbW.output, hbW.size, fun k hk _ => hbW.block k hk⟩
  have hcW : CurAt W B zs := hc.below hbW
  have hsW' : w.heap.size < W.heap.size := by omega
  clear hsW hc
  go_enter Tryz.func26, Tryz.ntmps26
  go_wp2_with fail
  rw [hW.out]
  clear hW hbW
  refine (l1Below_any B zs 5 W hcW hl (by omega)).mono ?_
  rintro e w1 ⟨x, rfl, hx, hc1, hg1⟩
  have hx5 : (x : Int) < 5 := hx (by omega)
  have b1 : Box w1 w.heap.size _ _ := b0.block (hg1.block w.heap.size b0.lt (fun e => by cases e; omega))
  have hg01 := grownBy_trans hg0 hg1
  have hs1 := hg1.size
  clear hx b0 hg1 hg0 hcW
  obtain ⟨W2, hW2, b2, hbW2, hsW2⟩ := boxes1 w1 [.int .i64 (1 + (x : Int)), .slice none 0 0, .slice none 0 0] 26
  have hb1' := b1.below hbW2 b1.lt
  have hc2 : CurAt W2 B zs := hc1.below hbW2
  have hg2 : w.grownBy W2 (some B) := grownBy_new (row := none) hg01 ⟨hbW2.os, hbW2.tape, hbW2.output, hbW2.size, fun k hk _ => hbW2.block k hk⟩ (fun k e => by cases e)
  have ho2 : ObjAt W2 (w1.heap.size + 1) w1.heap.size ⟨1 + (x : Int), [], []⟩ none 0 none 0 := ⟨b2, ⟨ownI_nil _ _ _ (Nat.le_refl _), ownI_nil _ _ _ (Nat.le_refl _), fun k hk => by cases hk⟩, by omega⟩
  have hsW2' : w1.heap.size < W2.heap.size := by omega
  clear hsW2 b1 b2 hbW2 hg01 hc1
  go_wp2_with fail
  rw [hW2.out]
  clear hW2
  generalize 1 + (x : Int) = q at *
  generalize w1.heap.size = Bo at *
  refine (l1Below_any B zs 3 W2 hc2 hl (by omega)).mono ?_
  rintro e w3 ⟨y, rfl, hy, hc3, hg3⟩
  have hy3 : (y : Int) < 3 := hy (by omega)
  have hBB : B < Bo := by omega
  have hwB : w.heap.size < Bo := by omega
  have b3 : Box w3 w.heap.size _ _ := hb1'.block (hg3.block w.heap.size hb1'.lt (fun e => by cases e; omega))
  have ho3 := ho2.kept hg3 hBB
  have hgw3 := grownBy_trans hg2 hg3
  clear hy hb1' hc2 hg2 hg3 ho2 hsW2' hs1 hsW' hx5
  go_wp2_with fail
  go_loopw [4] (fun i wr => ∃ (k : Nat) (aI : Option Addr) (cI : Nat) (is : List Int), i = .int .i64 k ∧ k ≤ 2 ∧ is.length + k ≤ 2 ∧ ObjAt wr (Bo + 1) Bo ⟨q, is, []⟩ aI cI none 0 ∧ Box wr w.heap.size [.int .i64 0, .slice none 0 0, .slice none 0 0] 26 ∧ CurAt wr B zs ∧ w.grownBy wr (some B))
    (fun i _ => (intOf i).toNat)
  case atStart => exact ⟨y, none, 0, [], rfl, by omega, by simp; omega, ho3, b3, hc3, hgw3⟩
  case round =>
    obtain ⟨k, aI, cI, is, rfl, hk, hik, ho, hb, hcr, hgr⟩ := hrel
    clear ho3 b3 hc3 hgw3 hy3
    cases k with
    | zero =>
      have hil : is.length ≤ 2 := by omega
      clear hik hk
      go_wp2_with fail
      refine (l1Below_any B zs 4 wr hcr hl (by omega)).mono ?_
      rintro e w4 ⟨z, rfl, hz, hc4, hg4⟩
      have hz4 : (z : Int) < 4 := hz (by omega)
      have b4 := hb.grown hg4 (by omega)
      have ho4 := ho.kept hg4 hBB
      have hgw4 := grownBy_trans hgr hg4
      clear hz hcr hb ho hgr hg4
      go_wp2_with fail
      go_loopw [5] (fun i wr => ∃ (k : Nat) (aR : Option Addr) (cR : Nat) (rs : List Int), i = .int .i64 k ∧ k ≤ 3 ∧ rs.length + k ≤ 3 ∧ ObjAt wr (Bo + 1) Bo ⟨q, is, rs⟩ aI cI aR cR ∧ Box wr w.heap.size [.int .i64 0, .slice none 0 0, .slice none 0 0] 26 ∧ CurAt wr B zs ∧ w.grownBy wr (some B))
        (fun i _ => (intOf i).toNat)
      case atStart => exact ⟨z, none, 0, [], rfl, by omega, by simp; omega, ho4, b4, hc4, hgw4⟩
      case round =>
        clear ho4 b4 hc4 hgw4 hz4 w4
        rename_i _ wx
        obtain ⟨k, aR, cR, rs, rfl, hk, hik, ho, hb, hcr, hgr⟩ := hrel
        cases k with
        | zero =>
          have hrl : rs.length ≤ 3 := by omega
          clear hik hk
          obtain ⟨c0, c1, c2, _, _, _⟩ := ho.three
          obtain ⟨x0, x1, x2, g0, g1, g2⟩ := hb.three
          obtain ⟨WF, hWF, bF, hwF, hsF⟩ := box3_fill hb (.int .i64 q) (.slice aI is.length cI) (.slice aR rs.length cR)
          go_wp2
          rw [hWF.out]
          obtain ⟨q0, q1, q2, _, _, _⟩ := bF.three
          have hlo := ho.lt
          have hgF : wr.grownBy WF (some w.heap.size) := ⟨hwF.os, hwF.tape, hwF.output, hwF.size, fun k hk hn => hwF.block k hk (fun h => hn (by rw [show k = w.heap.size by omega]))⟩
          exact bodyPost_ret (v := .agg #[.int .i64 q, .slice aI is.length cI, .slice aR rs.length cR]) (by simp [results, Tryz.results26, go_sem, q0, q1, q2]) rfl ⟨aI, cI, aR, cR, ⟨q, is, rs⟩, rfl, by simp only; omega, hrl, (ho.own.kept hgF (by omega)).widen (by omega) (Nat.le_refl _) (Nat.le_refl _), hcr.kept hgF (fun k e => by cases e; exact hB), grownBy_new hgr hgF (fun k e => by cases e; exact Nat.le_refl _)⟩
        | succ m =>
          have hkp : (0 : Int) < ((m + 1 : Nat) : Int) := by omega
          obtain ⟨_, _, c2, _, _, f2⟩ := ho.three
          go_wp2_with fail
          go_region_law ((first
            | (go_simp; go_at_call 40; refine (l1Below_any B zs 32 _ (by exact hcr.drew) hl (by omega)).mono ?_; rintro e u1 ⟨x, rfl, hx, hc1, hg1⟩; have hg1' := grownBy_trans (grown_drew _ (some B)) hg1; have ho1 := ho.kept hg1' hBB; obtain ⟨_, _, d2, _, _, _⟩ := ho1.three; have dA := fun ob => (ho1.alloc ob).three.2.2.1)
            | (go_simp; go_at_call 41; refine (l1Int_any B zs _ _ [0, 1, 2, 3, 5, 8, 12, 31, (x : Int)] _ (hc1.alloc _) hl (readsI_lit u1 _ _) (fun b off e => by cases e; have := hc1.lt; omega) (by simp) (by simp)).mono ?_; rintro e u2 ⟨j, hj, rfl, hc2, hg2⟩; generalize List.getD _ j (0 : Int) = n; have hg2' := grownBy_trans (World.grownBy_alloc u1 _ (some B)) hg2; have ho2 := ho1.kept hg2' hBB; obtain ⟨_, _, d2, _, _, _⟩ := ho2.three; have dA := fun ob => (ho2.alloc ob).three.2.2.1)
            | (refine step_append_ints rfl (.tmp 33) (.tmp 39) (by rfl) (Bo + 1) _ aR cR rs (by rfl) (ho2.alloc _).own.refs _ _ [n] (by rfl) (readsI_lit u2 [n] _) (by intro h; cases h) (by simp; omega) (by have := ho2.box.lt; simp; omega) ?_; intro a3 c3 y3 u3 hy3 ho3 hg3 hat3; obtain ⟨⟨d2, f2⟩, hO, hC, hG, hT⟩ := (ho2.alloc _).pushR (hc2.alloc _) hBB (grownBy_new (grownBy_trans (grownBy_trans hgr hg1') hg2') (World.grownBy_alloc u2 _ none) (fun j e => by cases e)) (by omega) ho3 hg3 hat3)))
          all_goals
            have hbF := (((hb.grown hg1' (by omega)).grown hg2' (by omega)).alloc _).block (hT w.heap.size (by omega) (by omega) (((hb.grown hg1' (by omega)).grown hg2' (by omega)).alloc _).lt)
            have hyl : y3.length + m ≤ 3 := by have := congrArg List.length hy3.out; simp at this; omega
            clear hT hat3 hg3 ho3 dA d2 f2 hc1 hc2 ho1 ho2 hg1' hg2' hcr hgr hb ho hg1 hg2 hy3
            generalize u3.setCell _ _ = wf at *
            go_wp2_with fail
            go_roundw
            case rel => exact ⟨m, a3, c3, y3, by go_num, by omega, hyl, hO, hbF, hC, hG⟩
            case measure => simp [intOf]
    | succ m =>
      have hkp : (0 : Int) < ((m + 1 : Nat) : Int) := by omega
      obtain ⟨_, c1, _, _, f1, _⟩ := ho.three
      go_wp2_with fail
      go_region_law ((first
        | (go_simp; go_at_call 40; refine (l1Below_any B zs 50 _ (by exact hcr.drew) hl (by omega)).mono ?_; rintro e u1 ⟨x, rfl, hx, hc1, hg1⟩; have hg1' := grownBy_trans (grown_drew wr (some B)) hg1; have ho1 := ho.kept hg1' hBB; obtain ⟨_, d1, _, _, _, _⟩ := ho1.three; have dA := fun ob => (ho1.alloc ob).three.2.1)
        | (go_simp; go_at_call 41; refine (l1Int_any B zs _ _ [0, 1, -1, 7, 1000000, -1000000, (x : Int)] _ (hc1.alloc _) hl (readsI_lit u1 _ _) (fun b off e => by cases e; have := hc1.lt; omega) (by simp) (by simp)).mono ?_; rintro e u2 ⟨j, hj, rfl, hc2, hg2⟩; generalize List.getD _ j (0 : Int) = n; have hg2' := grownBy_trans (World.grownBy_alloc u1 _ (some B)) hg2; have ho2 := ho1.kept hg2' hBB; obtain ⟨_, d1, _, _, _, _⟩ := ho2.three; have dA := fun ob => (ho2.alloc ob).three.2.1)
        | (refine step_append_ints rfl (.tmp 17) (.tmp 23) (by rfl) (Bo + 1) _ aI cI is (by rfl) (ho2.alloc _).own.ints _ _ [n] (by rfl) (readsI_lit u2 [n] _) (by intro h; cases h) (by simp; omega) (by have := ho2.box.lt; simp; omega) ?_; intro a3 c3 y3 u3 hy3 ho3 hg3 hat3; obtain ⟨⟨d1, f1⟩, hO, hC, hG, hT⟩ := (ho2.alloc _).pushI (hc2.alloc _) hBB (grownBy_new (grownBy_trans (grownBy_trans hgr hg1') hg2') (World.grownBy_alloc u2 _ none) (fun j e => by cases e)) (by omega) ho3 hg3 hat3)))
      all_goals
        have hbF := (((hb.grown hg1' (by omega)).grown hg2' (by omega)).alloc _).block (hT w.heap.size (by omega) (by omega) (((hb.grown hg1' (by omega)).grown hg2' (by omega)).alloc _).lt)
        have hyl : y3.length + m ≤ 2 := by have := congrArg List.length hy3.out; simp at this; omega
        clear hT hat3 hg3 ho3 dA d1 f1 hc1 hc2 ho1 ho2 hg1' hg2' hcr hgr hb ho hg1 hg2 hy3
        generalize u3.setCell _ _ = wf at *
        go_wp2_with fail
        go_roundw
        case rel => exact ⟨m, a3, c3, y3, by go_num, by omega, hyl, hO, hbF, hC, hG⟩
        case measure => simp [intOf]
end Go.Proofs.YtdibmepjbabnnabGreatDoor

/- The walk of spec.l2Copy. -/
namespace Go.Proofs.YtdibmepjbabnnabGreatDoor
open Go.RowKit

theorem blA {W w' : World} (h : Below W.heap.size W w') (o : Obj) : Below W.heap.size W (w'.alloc o) := h.alloc h.size o
theorem blG {W w' w2 : World} {g : Nat} (h : Below W.heap.size W w') (hg : w'.grownBy w2 (some g)) (hn : W.heap.size ≤ g) : Below W.heap.size W w2 := h.grown hg h.size (fun k e => by cases e; exact hn)
theorem ownI_box0 {w : World} {g lo : Nat} (h : Box w g [] 3) (hlo : lo ≤ g) : OwnI w lo w.heap.size (some ⟨g, 0, none⟩) 0 [] :=
  ⟨⟨by simp, .inr ⟨g, 0, #[], rfl, hlo, h, Nat.le_refl _, by simp [maxLen], rfl, rfl⟩⟩, Nat.le_refl _, fun k hk => by cases hk; exact h.lt⟩

set_option maxHeartbeats 4000000 in
set_option maxRecDepth 100000 in
theorem l2Copy_any (o : ObjV) (aI : Option Addr) (cI : Nat) (aR : Option Addr) (cR : Nat) (w : World) (hr : ReadsO w aI cI aR cR o) (hlI : o.ints.length ≤ 1000) (hlR : o.refs.length ≤ 1000) :
    Calls Tryz.prog 42 #[.agg #[.int .i64 o.kind, .slice aI o.ints.length cI, .slice aR o.refs.length cR]] w fun e w' => ∃ aI' cI' aR' cR', e = .returned (.agg #[.int .i64 o.kind, .slice aI' o.ints.length cI', .slice aR' o.refs.length cR']) ∧
      OwnO w' w.heap.size w'.heap.size aI' cI' aR' cR' o ∧ Below w.heap.size w w' := by
  obtain ⟨k, ints, refs⟩ := o
  obtain ⟨hI, hR, hni, hnr⟩ := hr
  simp only at *
  obtain ⟨W, hW, b0, b1, hbW, hsW⟩ := boxes2 w [.int .i64 k, .slice aI ints.length cI, .slice aR refs.length cR] [.int .i64 0, .slice none 0 0, .slice none 0 0] 26 26
  have hI' := hI.below hbW
  have hR' := hR.below hbW
  have hwW : w.heap.size + 1 < W.heap.size := by omega
  clear hsW hI hR
  go_enter Tryz.func42, Tryz.ntmps42
  go_wp2_with fail
  rw [hW.out]
  clear hW
  have hkeep : ∀ w'', Below W.heap.size W w'' → Box w'' w.heap.size [.int .i64 k, .slice aI ints.length cI, .slice aR refs.length cR] 26 ∧ Box w'' (w.heap.size + 1) [.int .i64 0, .slice none 0 0, .slice none 0 0] 26 :=
    fun w'' hh => ⟨b0.below hh b0.lt, b1.below hh b1.lt⟩
  have hcells : ∀ w'', Below W.heap.size W w'' → (w''.cell? ⟨w.heap.size, 0, none⟩ = some (.int .i64 k) ∧ w''.cell? ⟨w.heap.size, 1, none⟩ = some (.slice aI ints.length cI) ∧ w''.cell? ⟨w.heap.size, 2, none⟩ = some (.slice aR refs.length cR)) ∧ (w''.cell? ⟨w.heap.size + 1, 0, none⟩ = some (.int .i64 0) ∧ w''.cell? ⟨w.heap.size + 1, 1, none⟩ = some (.slice none 0 0) ∧ w''.cell? ⟨w.heap.size + 1, 2, none⟩ = some (.slice none 0 0)) ∧ (w''.frozen? ⟨w.heap.size + 1, 0, none⟩ = false ∧ w''.frozen? ⟨w.heap.size + 1, 1, none⟩ = false ∧ w''.frozen? ⟨w.heap.size + 1, 2, none⟩ = false) := by
    intro w'' hh
    obtain ⟨ba, bb⟩ := hkeep w'' hh
    exact ⟨⟨ba.cell 0 _ rfl, ba.cell 1 _ rfl, ba.cell 2 _ rfl⟩, ⟨bb.cell 0 _ rfl, bb.cell 1 _ rfl, bb.cell 2 _ rfl⟩, bb.frozen 0, bb.frozen 1, bb.frozen 2⟩
  have hh := hcells W (Below.refl _ _)
  have q1 : Box (W.drew.alloc (.cells #[] 3)) W.heap.size [] 3 := box_new W.drew [] _
  have q2a : Box ((W.drew.alloc (.cells #[] 3)).alloc (.cells #[] 3)) W.heap.size [] 3 := (box_new W.drew [] _).alloc _
  have q2b : Box ((W.drew.alloc (.cells #[] 3)).alloc (.cells #[] 3)) (W.heap.size + 1) [] 3 := by
    have := box_new (W.drew.alloc (.cells #[] 3)) [] 3
    simpa using this
  have Q1 : Hid (_ ∧ _ ∧ _) := ⟨q1, q2a, q2b⟩
  clear q1 q2a q2b
  have HK : Hid _ := hkeep
  have HC : Hid _ := hcells
  have hne : ¬ (w.heap.size = w.heap.size + 1) := by omega
  have HNI : Hid _ := hni
  have HNR : Hid _ := hnr
  clear hkeep hcells b0 b1 hni hnr
  go_region_held3 (fun w'' => w''.cell? ⟨w.heap.size, 0, none⟩ = some (.int .i64 k) ∧ w''.cell? ⟨w.heap.size, 1, none⟩ = some (.slice aI ints.length cI) ∧ w''.cell? ⟨w.heap.size, 2, none⟩ = some (.slice aR refs.length cR))
    (first | exact (HC.out _ (by first | exact hb2 | exact hb1 | exact blA hb2 _ | exact blA hb1 _ | exact (Below.refl _ _).drew | exact blA (Below.refl _ _).drew _ | exact blA (blA (Below.refl _ _).drew _) _ | fail)).1 | exact ⟨((((HK.out _ (by first | exact hb2 | exact hb1 | fail)).1.other hne).other hne).other hne).cell 0 _ rfl, ((((HK.out _ (by first | exact hb2 | exact hb1 | fail)).1.other hne).other hne).other hne).cell 1 _ rfl, ((((HK.out _ (by first | exact hb2 | exact hb1 | fail)).1.other hne).other hne).other hne).cell 2 _ rfl⟩ | go_keep | fail)
    ((first
      | (refine step_append_ints rfl (.tmp 5) (.tmp 7) (by rfl) (w.heap.size + 1 + 1) _ _ _ [] (by rfl) (ownI_box0 (by first | exact Q1.out.1 | exact Q1.out.2.1 | exact Q1.out.2.2 | assumption | exact (Q1.out.2.2).grown hg1 (by dsimp only; omega) | exact (Q1.out.2.1).grown hg1 (by dsimp only; omega) | exact box_new _ [] _ | fail) (by first | omega | (have := hb1.size; omega))) aI cI ints (by rfl) (hI'.below (by first | exact hb2 | exact hb1 | exact blA hb2 _ | exact blA hb1 _ | exact (Below.refl _ _).drew | exact blA (Below.refl _ _).drew _ | exact blA (blA (Below.refl _ _).drew _) _ | fail)) HNI.out (by simp only [List.length_nil]; omega) (Nat.le_trans (by omega) (Below.size (B := W.heap.size) (w := W) (by first | exact hb2 | exact hb1 | exact blA hb2 _ | exact blA hb1 _ | exact (Below.refl _ _).drew | exact blA (Below.refl _ _).drew _ | exact blA (blA (Below.refl _ _).drew _) _ | fail))) ?_; intro a1 c1 y1 u1 hy1 hO1 hg1 hat1; have HA1 : Hid _ := hat1; clear hat1; have hyy : ints = y1 := (by simpa using hy1.out.symm); subst hyy; have hb1 := blG (W := W) (by first | exact hb2 | exact hb1 | exact blA hb2 _ | exact blA hb1 _ | exact (Below.refl _ _).drew | exact blA (Below.refl _ _).drew _ | exact blA (blA (Below.refl _ _).drew _) _ | fail) hg1 (by dsimp only; omega))
      | (refine step_append_ints rfl (.tmp 9) (.tmp 11) (by rfl) (w.heap.size + 1 + 1) _ _ _ [] (by rfl) (ownI_box0 (by first | exact Q1.out.1 | exact Q1.out.2.1 | exact Q1.out.2.2 | assumption | exact (Q1.out.2.2).grown hg1 (by dsimp only; omega) | exact (Q1.out.2.1).grown hg1 (by dsimp only; omega) | exact box_new _ [] _ | fail) (by first | omega | (have := hb1.size; omega))) aR cR refs (by rfl) (hR'.below (by first | exact hb2 | exact hb1 | exact blA hb2 _ | exact blA hb1 _ | exact (Below.refl _ _).drew | exact blA (Below.refl _ _).drew _ | exact blA (blA (Below.refl _ _).drew _) _ | fail)) HNR.out (by simp only [List.length_nil]; omega) (Nat.le_trans (by omega) (Below.size (B := W.heap.size) (w := W) (by first | exact hb2 | exact hb1 | exact blA hb2 _ | exact blA hb1 _ | exact (Below.refl _ _).drew | exact blA (Below.refl _ _).drew _ | exact blA (blA (Below.refl _ _).drew _) _ | fail))) ?_; intro a2 c2 y2 u2 hy2 hO2 hg2 hat2; have HA2 : Hid _ := hat2; clear hat2; have hyy : refs = y2 := (by simpa using hy2.out.symm); subst hyy; have hb2 := blG (W := W) (by first | exact hb2 | exact hb1 | exact blA hb2 _ | exact blA hb1 _ | exact (Below.refl _ _).drew | exact blA (Below.refl _ _).drew _ | exact blA (blA (Below.refl _ _).drew _) _ | fail) hg2 (by dsimp only; first | omega | (have := hb1.size; omega)); obtain ⟨⟨m0, m1, m2⟩, ⟨n0, n1, n2⟩, e0, e1, e2⟩ := HC.out _ hb2) | fail))
  all_goals
    have hO1' : OwnI u2 (w.heap.size + 1 + 1) u2.heap.size a1 c1 ints := by
      first
      | exact (hO1.kept hg2 (fun k hk e => by have h1 := HA1.out k hk; have h2 := (hO1.lt k hk).2; simp [Value.ownBlock] at h1 e; omega)).widen (Nat.le_refl _) hg2.size (Nat.le_refl _)
      | exact ((hO1.below ((Below.refl _ _).alloc (Nat.le_refl _) _)).kept hg2 (fun k hk e => by have h2 := (hO1.lt k hk).2; simp [Value.ownBlock] at e; omega)).widen (Nat.le_refl _) (Nat.le_trans (by simp) hg2.size) (Nat.le_refl _)
      | fail
    have hap : ∀ k, (Value.slice a1 ints.length c1).ownBlock = some k → (Value.slice a2 refs.length c2).ownBlock ≠ some k := by
      intro k hk hk'
      have h1 := HA1.out k hk
      have h2 := HA2.out k hk'
      have h3 := (hO1.lt k hk).2
      simp [Value.ownBlock] at h1 h2
      omega
    obtain ⟨WF, hWF, bF, hwF, hsF⟩ := box3_fill (HK.out _ hb2).2 (.int .i64 k) (.slice a1 ints.length c1) (.slice a2 refs.length c2)
    clear HA1 HA2 hg1 hg2 Q1 hb1 hO1
    rw [hWF.out]
    go_wp2
    obtain ⟨q0, q1, q2, _, _, _⟩ := bF.three
    have hs2 := hb2.size
    have hOF : OwnO WF (w.heap.size + 1 + 1) u2.heap.size a1 c1 a2 c2 ⟨k, ints, refs⟩ := (⟨hO1', hO2, hap⟩ : OwnO u2 (w.heap.size + 1 + 1) u2.heap.size a1 c1 a2 c2 ⟨k, ints, refs⟩).within hwF (.inr (by omega))
    exact bodyPost_ret (v := .agg #[.int .i64 k, .slice a1 ints.length c1, .slice a2 refs.length c2]) (by simp [results, Tryz.results42, go_sem, q0, q1, q2]) rfl ⟨a1, c1, a2, c2, rfl, hOF.widen (by omega) (by omega) (Nat.le_refl _), (hbW.trans (hb2.mono (by omega))).trans (hwF.below (by omega) (by omega))⟩
end Go.Proofs.YtdibmepjbabnnabGreatDoor

/- The walk of spec.l2Bend. -/
namespace Go.Proofs.YtdibmepjbabnnabGreatDoor
open Go.RowKit
attribute [local go_sem ↓] Go.wp_at_zero Go.wp_at_succ

theorem ownI_make (w : World) (ns : List Int) (lo : Nat) (hlo : lo ≤ w.heap.size) (hm : ns.length ≤ 1000) : OwnI (w.alloc (.cells (ns.map (Value.int .i64)).toArray 3)) lo (w.alloc (.cells (ns.map (Value.int .i64)).toArray 3)).heap.size (some ⟨w.heap.size, 0, none⟩) ns.length ns := by
  have := World.ownsRow_lit (base := lo) (e := 3) (size := 1) w (ns.map (Value.int .i64)).toArray ns.length hlo (by simp only [maxLen]; omega) (by simp)
  exact ⟨by simpa using this, Nat.le_refl _, fun k hk => by cases hk; simp⟩

set_option maxHeartbeats 4000000 in
set_option maxRecDepth 100000 in
theorem l2Bend_any (B : Nat) (zs : List Int) (o : ObjV) (aI : Option Addr) (cI : Nat) (aR : Option Addr) (cR : Nat) (w : World) (hc : CurAt w B zs) (hl : zs.length ≤ 70368744177664) (hr : ReadsO w aI cI aR cR o) (hlI : o.ints.length ≤ 3) (hlR : o.refs.length ≤ 3) :
    Calls Tryz.prog 28 #[.pointer (some ⟨B, 0, none⟩), .agg #[.int .i64 o.kind, .slice aI o.ints.length cI, .slice aR o.refs.length cR]] w fun e w' => ∃ aI cI aR cR o, e = .returned (.agg #[.int .i64 o.kind, .slice aI o.ints.length cI, .slice aR o.refs.length cR]) ∧ o.ints.length ≤ 7 ∧ o.refs.length ≤ 7 ∧ OwnO w' w.heap.size w'.heap.size aI cI aR cR o ∧ CurAt w' B zs ∧ w.grownBy w' (some B) := by
  have hB := hc.lt
  obtain ⟨k, is, rs⟩ := o
  simp only at *
  obtain ⟨W, hW, b0, b1, hbW, hsW⟩ := boxes2 w [.int .i64 k, .slice aI is.length cI, .slice aR rs.length cR] [.int .i64 0, .slice none 0 0, .slice none 0 0] 26 26
  have hrW := hr.below hbW
  have hcW := hc.below hbW
  have hsW' : w.heap.size + 1 < W.heap.size := by omega
  clear hsW hr hc
  obtain ⟨_, z1, z2, _, _, _⟩ := b0.three
  have z0 := b0.three.1
  go_enter Tryz.func28, Tryz.ntmps28
  go_wp2_with fail
  rw [hW.out]
  clear hW z0 z1 z2
  refine (l2Copy_any ⟨k, is, rs⟩ aI cI aR cR W hrW (by simp only; omega) (by simp only; omega)).mono ?_
  rintro e w1 ⟨pI, dI, pR, dR, rfl, ho1, hb1⟩
  have hs1 := hb1.size
  have b01 := b0.below hb1 b0.lt
  have b11 := b1.below hb1 b1.lt
  obtain ⟨z0, z1, z2, f0, f1, f2⟩ := b01.three
  obtain ⟨W2, hW2, b02, hw2, hs2⟩ := box3_fill b01 (.int .i64 k) (.slice pI is.length dI) (.slice pR rs.length dR)
  have b12 : Box W2 (w.heap.size + 1) _ _ := b11.within hw2 (by omega)
  have ho2 : ObjAt W2 (w.heap.size + 1 + 1) w.heap.size ⟨k, is, rs⟩ pI dI pR dR := ⟨b02, ((ho1.within hw2 (.inr (by omega))).widen (by omega) (by omega) (Nat.le_refl _)), by omega⟩
  have hbT : Below w.heap.size w W2 := (hbW.trans (hb1.mono (by omega))).trans (hw2.below (by omega) (by omega))
  have hcT : CurAt W2 B zs := (hcW.below hb1).kept (row := some w.heap.size) ⟨hw2.os, hw2.tape, hw2.output, hw2.size, fun k hk hn => hw2.block k hk (fun h => hn (by rw [show k = w.heap.size by omega]))⟩ (fun k e => by cases e; exact hB)
  have hgT : w.grownBy W2 (some B) := ⟨hbT.os, hbT.tape, hbT.output, hbT.size, fun k hk _ => hbT.block k hk⟩
  have hsT : w.heap.size + 1 < W2.heap.size := by omega
  clear hs2 hw2 hbT hcW b01 b11 b02 b0 b1 ho1 hb1 hs1 hrW hbW hsW'
  go_wp2_with fail
  rw [hW2.out]
  clear hW2 z0 z1 z2 f0 f1 f2
  refine (l1Below_any B zs 5 W2 hcT hl (by omega)).mono ?_
  rintro e w3 ⟨x, rfl, hx, hcr, hg3⟩
  have hx5 : (x : Int) < 5 := hx (by omega)
  have hb := b12.grown hg3 (by omega)
  have ho := ho2.kept hg3 hB
  have hgr := grownBy_trans hgT hg3
  have hsz : w.heap.size + 1 < w3.heap.size := by have := hg3.size; omega
  clear hx hg3 b12 ho2 hcT hgT hsT
  have hxx : x = 0 ∨ x = 1 ∨ x = 2 ∨ x = 3 ∨ x = 4 := by omega
  rcases hxx with rfl | rfl | rfl | rfl | rfl
  · -- the kind
    clear hx5
    go_wp2_with fail
    refine (l1Int_any B zs _ _ [0, 99, 100, -1] _ (hcr.alloc _) hl (readsI_lit w3 _ _) (fun b off e => by cases e; omega) (by simp) (by simp)).mono ?_
    rintro e w4 ⟨j, hj, rfl, hc4, hg4⟩
    generalize List.getD _ j (0 : Int) = n
    have hg4' := grownBy_trans (World.grownBy_alloc w3 _ (some B)) hg4
    have ho4 := ho.kept hg4' hB
    have hb4 := hb.grown hg4' (by omega)
    have hgw4 := grownBy_trans hgr hg4'
    obtain ⟨c0, c1, c2, f0, _, _⟩ := ho4.three
    obtain ⟨W5, hW5, b5, hw5, hs5⟩ := box_set ho4.box 0 (.int .i64 n)
    simp only [List.set] at b5
    have hg5 : w4.grownBy W5 (some w.heap.size) := ⟨hw5.os, hw5.tape, hw5.output, hw5.size, fun k hk hn => hw5.block k hk (fun h => hn (by rw [show k = w.heap.size by omega]))⟩
    have ho5 : ObjAt W5 (w.heap.size + 1 + 1) w.heap.size ⟨n, is, rs⟩ pI dI pR dR := ⟨b5, ⟨(ho4.own.kept hg5 (by omega)).ints, (ho4.own.kept hg5 (by omega)).refs, ho4.own.apart⟩, by omega⟩
    have hb5 := hb4.grown hg5 (by omega)
    have hc5 := hc4.kept hg5 (fun k e => by cases e; exact hB)
    have hgw5 := grownBy_new hgw4 hg5 (fun k e => by cases e; exact Nat.le_refl _)
    obtain ⟨x0, x1, x2, g0, g1, g2⟩ := hb4.three
    obtain ⟨WF, hWF, bF, hwF, hsF⟩ := box3_fill hb5 (.int .i64 n) (.slice pI is.length dI) (.slice pR rs.length dR)
    clear ho hb hcr hgr ho4 hb4 hc4 hgw4 hg4 hg4' hg5 hw5 hj
    have ho := ho5
    have hcr := hc5
    have hgr := hgw5
    clear ho5 hb5 hc5 hgw5
    go_wp2
    rw [hW5.out, hWF.out]
    obtain ⟨q0, q1, q2, _, _, _⟩ := bF.three
    have hgF : W5.grownBy WF (some (w.heap.size + 1)) := ⟨hwF.os, hwF.tape, hwF.output, hwF.size, fun k hk hn => hwF.block k hk (fun h => hn (by rw [show k = w.heap.size + 1 by omega]))⟩
    exact bodyPost_ret (v := .agg #[.int .i64 n, .slice pI is.length dI, .slice pR rs.length dR]) (by simp [results, Tryz.results28, go_sem, q0, q1, q2]) rfl ⟨pI, dI, pR, dR, ⟨n, is, rs⟩, rfl, by simp only; omega, by simp only; omega, (ho.own.kept hgF (by omega)).widen (by omega) (Nat.le_refl _) (Nat.le_refl _), hcr.kept hgF (fun k e => by cases e; omega), grownBy_new hgr hgF (fun k e => by cases e; omega)⟩
  · -- one more of the is
    clear hx5
    obtain ⟨c0, c1, c2, _, _, _⟩ := ho.three
    have cA := fun ob => (ho.alloc ob).three.2.1
    go_wp2_with fail
    go_region_law ((first
      | (go_simp; go_at_call 41; refine (l1Int_any B zs _ _ [1000001, -1000001, 5] _ (hcr.drew.alloc _) hl (readsI_lit w3.drew _ _) (fun b off e => by cases e; show w3.heap.size ≠ B; omega) (by simp) (by simp)).mono ?_; rintro e u2 ⟨j, hj, rfl, hc2, hg2⟩; generalize List.getD _ j (0 : Int) = n; have hg2' := grownBy_trans (grownBy_trans (grown_drew w3 (some B)) (World.grownBy_alloc w3.drew _ (some B))) hg2; have ho2 := ho.kept hg2' hB; obtain ⟨_, d1, d2, _, _, _⟩ := ho2.three; have dA := fun ob => (ho2.alloc ob).three.2.1)
      | (refine step_append_ints rfl (.tmp 18) (.tmp 22) (by rfl) (w.heap.size + 1 + 1) _ pI dI is (by rfl) (ho2.alloc _).own.ints _ _ [n] (by rfl) (readsI_lit u2 [n] _) (by intro h; cases h) (by simp; omega) (by have := hg2'.size; simp; omega) ?_; intro a3 c3 y3 u3 hy3 ho3 hg3 hat3; obtain ⟨⟨d3, f3⟩, hO, hC, hG, hT⟩ := (ho2.alloc _).pushI (hc2.alloc _) hB (grownBy_new (grownBy_trans hgr hg2') (World.grownBy_alloc u2 _ none) (fun j e => by cases e)) (Nat.le_refl _) ho3 hg3 hat3) | fail))
    all_goals
      have hbF := ((hb.grown hg2' (by omega)).alloc _).block (hT (w.heap.size + 1) (by omega) (by omega) ((hb.grown hg2' (by omega)).alloc _).lt)
      have hyl : y3.length ≤ 4 := by have := congrArg List.length hy3.out; simp at this; omega
      clear hT hat3 hg3 ho3 dA d1 d2 cA c0 c1 c2 d3 f3 hc2 ho2 hg2' hg2 hcr hgr hb ho hy3
      generalize u3.setCell _ _ = wf at *
      have ho := hO
      have hb := hbF
      have hcr := hC
      have hgr := hG
      clear hO hbF hC hG
      obtain ⟨c0, c1, c2, _, _, _⟩ := ho.three
      obtain ⟨x0, x1, x2, g0, g1, g2⟩ := hb.three
      obtain ⟨WF, hWF, bF, hwF, hsF⟩ := box3_fill hb (.int .i64 k) (.slice a3 y3.length c3) (.slice pR rs.length dR)
      go_wp2
      rw [hWF.out]
      obtain ⟨q0, q1, q2, _, _, _⟩ := bF.three
      have hgF : wf.grownBy WF (some (w.heap.size + 1)) := ⟨hwF.os, hwF.tape, hwF.output, hwF.size, fun k hk hn => hwF.block k hk (fun h => hn (by rw [show k = w.heap.size + 1 by omega]))⟩
      exact bodyPost_ret (v := .agg #[.int .i64 k, .slice a3 y3.length c3, .slice pR rs.length dR]) (by simp [results, Tryz.results28, go_sem, q0, q1, q2]) rfl ⟨a3, c3, pR, dR, ⟨k, y3, rs⟩, rfl, by simp only; omega, by simp only; omega, (ho.own.kept hgF (by omega)).widen (by omega) (Nat.le_refl _) (Nat.le_refl _), hcr.kept hgF (fun k e => by cases e; omega), grownBy_new hgr hgF (fun k e => by cases e; omega)⟩
  · -- one more of the rs
    clear hx5
    obtain ⟨c0, c1, c2, _, _, _⟩ := ho.three
    have cA := fun ob => (ho.alloc ob).three.2.2.1
    go_wp2_with fail
    go_region_law ((first
      | (go_simp; go_at_call 41; refine (l1Int_any B zs _ _ [32, -1, 5] _ (hcr.drew.alloc _) hl (readsI_lit w3.drew _ _) (fun b off e => by cases e; show w3.heap.size ≠ B; omega) (by simp) (by simp)).mono ?_; rintro e u2 ⟨j, hj, rfl, hc2, hg2⟩; generalize List.getD _ j (0 : Int) = n; have hg2' := grownBy_trans (grownBy_trans (grown_drew w3 (some B)) (World.grownBy_alloc w3.drew _ (some B))) hg2; have ho2 := ho.kept hg2' hB; obtain ⟨_, d1, d2, _, _, _⟩ := ho2.three; have dA := fun ob => (ho2.alloc ob).three.2.2.1)
      | (refine step_append_ints rfl (.tmp 28) (.tmp 32) (by rfl) (w.heap.size + 1 + 1) _ pR dR rs (by rfl) (ho2.alloc _).own.refs _ _ [n] (by rfl) (readsI_lit u2 [n] _) (by intro h; cases h) (by simp; omega) (by have := hg2'.size; simp; omega) ?_; intro a3 c3 y3 u3 hy3 ho3 hg3 hat3; obtain ⟨⟨d3, f3⟩, hO, hC, hG, hT⟩ := (ho2.alloc _).pushR (hc2.alloc _) hB (grownBy_new (grownBy_trans hgr hg2') (World.grownBy_alloc u2 _ none) (fun j e => by cases e)) (Nat.le_refl _) ho3 hg3 hat3) | fail))
    all_goals
      have hbF := ((hb.grown hg2' (by omega)).alloc _).block (hT (w.heap.size + 1) (by omega) (by omega) ((hb.grown hg2' (by omega)).alloc _).lt)
      have hyl : y3.length ≤ 4 := by have := congrArg List.length hy3.out; simp at this; omega
      clear hT hat3 hg3 ho3 dA d1 d2 cA c0 c1 c2 d3 f3 hc2 ho2 hg2' hg2 hcr hgr hb ho hy3
      generalize u3.setCell _ _ = wf at *
      have ho := hO
      have hb := hbF
      have hcr := hC
      have hgr := hG
      clear hO hbF hC hG
      obtain ⟨c0, c1, c2, _, _, _⟩ := ho.three
      obtain ⟨x0, x1, x2, g0, g1, g2⟩ := hb.three
      obtain ⟨WF, hWF, bF, hwF, hsF⟩ := box3_fill hb (.int .i64 k) (.slice pI is.length dI) (.slice a3 y3.length c3)
      go_wp2
      rw [hWF.out]
      obtain ⟨q0, q1, q2, _, _, _⟩ := bF.three
      have hgF : wf.grownBy WF (some (w.heap.size + 1)) := ⟨hwF.os, hwF.tape, hwF.output, hwF.size, fun k hk hn => hwF.block k hk (fun h => hn (by rw [show k = w.heap.size + 1 by omega]))⟩
      exact bodyPost_ret (v := .agg #[.int .i64 k, .slice pI is.length dI, .slice a3 y3.length c3]) (by simp [results, Tryz.results28, go_sem, q0, q1, q2]) rfl ⟨pI, dI, a3, c3, ⟨k, is, y3⟩, rfl, by simp only; omega, by simp only; omega, (ho.own.kept hgF (by omega)).widen (by omega) (Nat.le_refl _) (Nat.le_refl _), hcr.kept hgF (fun k e => by cases e; omega), grownBy_new hgr hgF (fun k e => by cases e; omega)⟩
  · -- as many as may be, or one more
    clear hx5
    go_wp2_with fail
    refine (l1Below_any B zs 2 w3 hcr hl (by omega)).mono ?_
    rintro e w4 ⟨y, rfl, hy, hc4, hg4⟩
    have hy2 : (y : Int) < 2 := hy (by omega)
    have ho4 := ho.kept hg4 hB
    have hb4 := hb.grown hg4 (by omega)
    have hgw4 := grownBy_trans hgr hg4
    have hs4 := hg4.size
    clear ho hb hcr hgr hy hg4
    obtain ⟨i0, hi, hz0, hz1, hz2⟩ := info_parts Tryz.infoInt
    go_wp2_with (at_make; refine wpList_make_full _ rfl _ _ 24 rfl (w.heap.size + 1 + 1) 3 i0 (.int .i64 0) 1 Tryz.underlying24 hi hz0 hz1 _ _ _ _ (5 + y) rfl rfl (by omega) (by omega) (by rw [hz2]; omega) (by simp [maxLen]; omega) (by omega) ?_)
    intro w5 hown5 hg5
    have hyl : 5 + y ≤ 6 := by omega
    obtain ⟨ns, hn1, hown⟩ : ∃ ns : List Int, 5 + y = ns.length ∧ w5.ownsRow (w.heap.size + 1 + 1) 3 1 (.slice (some ⟨w4.heap.size, 0, none⟩) (5 + y) (5 + y)) (5 + y) (ns.map (Value.int .i64)) := by
      refine ⟨List.replicate (5 + y) 0, by simp, ?_⟩
      rw [List.map_replicate]
      simpa [Value.cells, toList_madeCells_one] using hown5
    clear hown5 hy2
    have hn2 : (5 : Int) + (y : Int) = (ns.length : Int) := by omega
    generalize 5 + y = N at *
    subst hn1
    generalize (5 : Int) + (y : Int) = M at *
    clear hn2
    have hlt5 : w4.heap.size < w5.heap.size := (hown.lt w4.heap.size rfl).2
    have hoN : OwnI w5 (w.heap.size + 1 + 1) w5.heap.size (some ⟨w4.heap.size, 0, none⟩) ns.length ns := ⟨hown, Nat.le_refl _, fun k hk => (hown.lt k hk).2⟩
    have hgk : ∀ r, w4.grownBy w5 r := fun r => ⟨hg5.os, hg5.tape, hg5.output, hg5.size, fun k hk _ => hg5.block k hk (by simp)⟩
    obtain ⟨_, hO, hC, hG, hT⟩ := ho4.pushI hc4 hB hgw4 (Nat.le_refl _) hoN (hgk _) (fun k hk => .inr (by cases hk; rfl))
    have hb6 := hb4.block (hT (w.heap.size + 1) (by omega) (by omega) hb4.lt)
    obtain ⟨c0, c1, c2, _, f1, _⟩ := (ho4.kept (hgk (some B)) hB).three
    obtain ⟨x0, x1, x2, g0, g1, g2⟩ := (hb4.grown (hgk (some B)) (by omega)).three
    obtain ⟨W6, hW6⟩ : ∃ W6, Hid (w5.setCell ⟨w.heap.size, 1, none⟩ (.slice (some ⟨w4.heap.size, 0, none⟩) ns.length ns.length) = W6) := ⟨_, rfl⟩
    rw [hW6.out] at hO hC hG hb6
    obtain ⟨WF, hWF, bF, hwF, hsF⟩ := box3_fill hb6 (.int .i64 k) (.slice (some ⟨w4.heap.size, 0, none⟩) ns.length ns.length) (.slice pR rs.length dR)
    clear hT hgk hoN hown hg5 hgw4 hb4 ho4 hc4 hi hz0 hz1 hz2
    have ho := hO
    have hcr := hC
    have hgr := hG
    clear hO hC hG hb6
    go_wp2
    rw [hW6.out, hWF.out]
    obtain ⟨q0, q1, q2, _, _, _⟩ := bF.three
    have hgF : W6.grownBy WF (some (w.heap.size + 1)) := ⟨hwF.os, hwF.tape, hwF.output, hwF.size, fun k hk hn => hwF.block k hk (fun h => hn (by rw [show k = w.heap.size + 1 by omega]))⟩
    exact bodyPost_ret (v := .agg #[.int .i64 k, .slice (some ⟨w4.heap.size, 0, none⟩) ns.length ns.length, .slice pR rs.length dR]) (by simp [results, Tryz.results28, go_sem, q0, q1, q2]) rfl ⟨(some ⟨w4.heap.size, 0, none⟩), ns.length, pR, dR, ⟨k, ns, rs⟩, rfl, by simp only; omega, by simp only; omega, (ho.own.kept hgF (by omega)).widen (by omega) (Nat.le_refl _) (Nat.le_refl _), hcr.kept hgF (fun k e => by cases e; omega), grownBy_new hgr hgF (fun k e => by cases e; omega)⟩
  · -- as it was
    clear hx5
    obtain ⟨c0, c1, c2, _, _, _⟩ := ho.three
    obtain ⟨x0, x1, x2, g0, g1, g2⟩ := hb.three
    obtain ⟨WF, hWF, bF, hwF, hsF⟩ := box3_fill hb (.int .i64 k) (.slice pI is.length dI) (.slice pR rs.length dR)
    go_wp2
    rw [hWF.out]
    obtain ⟨q0, q1, q2, _, _, _⟩ := bF.three
    have hgF : w3.grownBy WF (some (w.heap.size + 1)) := ⟨hwF.os, hwF.tape, hwF.output, hwF.size, fun k hk hn => hwF.block k hk (fun h => hn (by rw [show k = w.heap.size + 1 by omega]))⟩
    exact bodyPost_ret (v := .agg #[.int .i64 k, .slice pI is.length dI, .slice pR rs.length dR]) (by simp [results, Tryz.results28, go_sem, q0, q1, q2]) rfl ⟨pI, dI, pR, dR, ⟨k, is, rs⟩, rfl, by simp only; omega, by simp only; omega, (ho.own.kept hgF (by omega)).widen (by omega) (Nat.le_refl _) (Nat.le_refl _), hcr.kept hgF (fun k e => by cases e; omega), grownBy_new hgr hgF (fun k e => by cases e; omega)⟩
end Go.Proofs.YtdibmepjbabnnabGreatDoor

/- The walks of spec.l1Once, l2ObjAny and DrawPutObj. -/
namespace Go.Proofs.YtdibmepjbabnnabGreatDoor
open Go.RowKit

theorem l1Once_any (B : Nat) (zs : List Int) (n : Int) (w : World) (hc : CurAt w B zs) (hl : zs.length ≤ 70368744177664) (hn : n ≤ 1000000000) :
    Calls Tryz.prog 27 #[.pointer (some ⟨B, 0, none⟩), .int .i64 n] w fun e w' => ∃ b : Bool, e = .returned (.bool b) ∧ CurAt w' B zs ∧ w.grownBy w' (some B) := by
  go_enter Tryz.func27, Tryz.ntmps27
  go_wp2_with fail
  refine (l1Below_any B zs n w hc hl hn).mono ?_
  rintro e w1 ⟨x, rfl, _, hc1, hg1⟩
  go_wp2
  go_ret
  exact ⟨_, rfl, hc1, hg1⟩

set_option maxHeartbeats 4000000 in
set_option maxRecDepth 100000 in
theorem l2ObjAny_any (B : Nat) (zs : List Int) (w : World) (hc : CurAt w B zs) (hl : zs.length ≤ 70368744177664) :
    Calls Tryz.prog 14 #[.pointer (some ⟨B, 0, none⟩)] w fun e w' => ∃ aI cI aR cR o, e = .returned (.agg #[.int .i64 o.kind, .slice aI o.ints.length cI, .slice aR o.refs.length cR]) ∧ o.ints.length ≤ 7 ∧ o.refs.length ≤ 7 ∧ OwnO w' w.heap.size w'.heap.size aI cI aR cR o ∧ CurAt w' B zs ∧ w.grownBy w' (some B) := by
  have hB := hc.lt
  obtain ⟨W, hW, b0, hbW, hsW⟩ := boxes1 w [.int .i64 0, .slice none 0 0, .slice none 0 0] 26
  have hg0 : w.grownBy W (some B) := ⟨hbW.os, hbW.tape, hbW.output, hbW.size, fun k hk _ => hbW.block k hk⟩
  have hcW : CurAt W B zs := hc.below hbW
  have hsW' : w.heap.size < W.heap.size := by omega
  clear hsW hc
  go_enter Tryz.func14, Tryz.ntmps14
  go_wp2_with fail
  rw [hW.out]
  clear hW hbW
  refine (l2Obj_any B zs W hcW hl).mono ?_
  rintro e w1 ⟨aI, cI, aR, cR, ⟨k, is, rs⟩, rfl, hlI, hlR, ho1, hc1, hg1⟩
  simp only at *
  have b1 := b0.grown hg1 (by omega)
  have hgw1 := grownBy_trans hg0 hg1
  have hs1 := hg1.size
  clear hg1 hg0 hcW b0
  obtain ⟨W2, hW2, b2, hbW2, hsW2⟩ := boxes1 w1 [.int .i64 k, .slice aI is.length cI, .slice aR rs.length cR] 26
  have hb2 := b1.below hbW2 b1.lt
  have hc2 : CurAt W2 B zs := hc1.below hbW2
  have hgw2 : w.grownBy W2 (some B) := grownBy_new (row := none) hgw1 ⟨hbW2.os, hbW2.tape, hbW2.output, hbW2.size, fun k hk _ => hbW2.block k hk⟩ (fun k e => by cases e)
  have ho2 := ho1.below hbW2
  have hlt2 : w1.heap.size < W2.heap.size := by omega
  clear hsW2 hbW2 b1 hc1 hgw1 ho1
  go_wp2_with fail
  rw [hW2.out]
  clear hW2
  refine (l1Once_any B zs 6 W2 hc2 hl (by omega)).mono ?_
  rintro e w3 ⟨bb, rfl, hc3, hg3⟩
  have hs3 := hg3.size
  have b3 := b2.grown hg3 (by omega)
  have hb3 := hb2.grown hg3 (by omega)
  have hgw3 := grownBy_trans hgw2 hg3
  have ho3 := ho2.kept hg3 (by omega)
  clear b2 hb2 hgw2 ho2 hg3 hc2
  obtain ⟨c0, c1, c2, f0, f1, f2⟩ := b3.three
  cases bb with
  | false =>
    obtain ⟨x0, x1, x2, g0, g1, g2⟩ := hb3.three
    obtain ⟨WF, hWF, bF, hwF, hsF⟩ := box3_fill hb3 (.int .i64 k) (.slice aI is.length cI) (.slice aR rs.length cR)
    go_wp2
    rw [hWF.out]
    obtain ⟨q0, q1, q2, _, _, _⟩ := bF.three
    have hgF : w3.grownBy WF (some w.heap.size) := ⟨hwF.os, hwF.tape, hwF.output, hwF.size, fun k hk hn => hwF.block k hk (fun h => hn (by rw [show k = w.heap.size by omega]))⟩
    exact bodyPost_ret (v := .agg #[.int .i64 k, .slice aI is.length cI, .slice aR rs.length cR]) (by simp [results, Tryz.results14, go_sem, q0, q1, q2]) rfl ⟨aI, cI, aR, cR, ⟨k, is, rs⟩, rfl, by simp only; omega, by simp only; omega, (ho3.kept hgF (by omega)).widen (by omega) (Nat.le_refl _) (Nat.le_refl _), hc3.kept hgF (fun k e => by cases e; omega), grownBy_new hgw3 hgF (fun k e => by cases e; omega)⟩
  | true =>
    go_wp2_with fail
    refine (l2Bend_any B zs ⟨k, is, rs⟩ aI cI aR cR w3 hc3 hl ho3.reads hlI hlR).mono ?_
    rintro e w4 ⟨pI, dI, pR, dR, ⟨k', is', rs'⟩, rfl, hlI', hlR', ho4, hc4, hg4⟩
    simp only at *
    have hs4 := hg4.size
    have b4 := b3.grown hg4 (by omega)
    have hb4 := hb3.grown hg4 (by omega)
    have hgw4 := grownBy_trans hgw3 hg4
    clear b3 hb3 hgw3 ho3 hg4 hc3 c0 c1 c2 f0 f1 f2
    obtain ⟨c0, c1, c2, f0, f1, f2⟩ := b4.three
    obtain ⟨x0, x1, x2, g0, g1, g2⟩ := hb4.three
    obtain ⟨W5, hW5, b5, hw5, hs5⟩ := box3_fill b4 (.int .i64 k') (.slice pI is'.length dI) (.slice pR rs'.length dR)
    have hb5 : Box W5 w.heap.size _ _ := hb4.within hw5 (by omega)
    obtain ⟨WF, hWF, bF, hwF, hsF⟩ := box3_fill hb5 (.int .i64 k') (.slice pI is'.length dI) (.slice pR rs'.length dR)
    have hne : ¬ (w.heap.size = w1.heap.size) := by omega
    have hne' : ¬ (w1.heap.size = w.heap.size) := by omega
    have hgF : w4.grownBy W5 (some w1.heap.size) := ⟨hw5.os, hw5.tape, hw5.output, hw5.size, fun k hk hn => hw5.block k hk (fun h => hn (by rw [show k = w1.heap.size by omega]))⟩
    have hgG : W5.grownBy WF (some w.heap.size) := ⟨hwF.os, hwF.tape, hwF.output, hwF.size, fun k hk hn => hwF.block k hk (fun h => hn (by rw [show k = w.heap.size by omega]))⟩
    clear hw5 hwF
    go_wp2
    rw [hW5.out, hWF.out]
    obtain ⟨q0, q1, q2, _, _, _⟩ := bF.three
    exact bodyPost_ret (v := .agg #[.int .i64 k', .slice pI is'.length dI, .slice pR rs'.length dR]) (by simp [results, Tryz.results14, go_sem, q0, q1, q2]) rfl ⟨pI, dI, pR, dR, ⟨k', is', rs'⟩, rfl, by simp only; omega, by simp only; omega, ((ho4.kept hgF (by omega)).kept hgG (by omega)).widen (by omega) (Nat.le_refl _) (Nat.le_refl _), (hc4.kept hgF (fun k e => by cases e; omega)).kept hgG (fun k e => by cases e; omega), grownBy_new (grownBy_new hgw4 hgF (fun k e => by cases e; omega)) hgG (fun k e => by cases e; omega)⟩

set_option maxHeartbeats 4000000 in
set_option maxRecDepth 100000 in
theorem drawPutObj_any (a : Option Addr) (c : Nat) (zs : List Int) (w : World) (hr : Reads w a zs) (hl : zs.length ≤ 70368744177664) :
    Calls Tryz.prog 5 #[.slice a zs.length c] w fun e w' => ∃ aI cI aR cR o, e = .returned (.agg #[.int .i64 o.kind, .slice aI o.ints.length cI, .slice aR o.refs.length cR]) ∧ o.ints.length ≤ 7 ∧ o.refs.length ≤ 7 ∧ OwnO w' w.heap.size w'.heap.size aI cI aR cR o ∧ Below w.heap.size w w' := by
  obtain ⟨W, hW, b0, hbW, hsW⟩ := boxes1 w [.int .i64 0, .slice none 0 0, .slice none 0 0] 26
  have hrW := hr.below hbW
  have hsW' : w.heap.size < W.heap.size := by omega
  clear hsW hr
  go_enter Tryz.func5, Tryz.ntmps5
  go_wp2_with fail
  rw [hW.out]
  clear hW
  refine (l1New_any a c zs W hrW hl).mono ?_
  rintro e w1 ⟨rfl, hc1, hb1⟩
  have b1 := b0.below hb1 b0.lt
  have hs1 := hb1.size
  clear b0
  go_wp2_with fail
  refine (l2ObjAny_any W.heap.size zs w1 hc1 hl).mono ?_
  rintro e w2 ⟨aI, cI, aR, cR, ⟨k, is, rs⟩, rfl, hlI, hlR, ho2, hc2, hg2⟩
  simp only at *
  have hs2 := hg2.size
  have b2 := b1.grown hg2 (by omega)
  have hB2 : Below w.heap.size w w2 := (hbW.trans (hb1.mono (by omega))).grown hg2 (by omega) (fun k e => by cases e; omega)
  clear b1 hb1 hbW hc1 hc2 hg2
  obtain ⟨x0, x1, x2, g0, g1, g2⟩ := b2.three
  obtain ⟨WF, hWF, bF, hwF, hsF⟩ := box3_fill b2 (.int .i64 k) (.slice aI is.length cI) (.slice aR rs.length cR)
  go_wp2
  rw [hWF.out]
  obtain ⟨q0, q1, q2, _, _, _⟩ := bF.three
  exact bodyPost_ret (v := .agg #[.int .i64 k, .slice aI is.length cI, .slice aR rs.length cR]) (by simp [results, Tryz.results5, go_sem, q0, q1, q2]) rfl ⟨aI, cI, aR, cR, ⟨k, is, rs⟩, rfl, by simp only; omega, by simp only; omega, (ho2.within hwF (.inr (by omega))).widen (by omega) (by omega) (Nat.le_refl _), hB2.trans (hwF.below (by omega) (by omega))⟩
end Go.Proofs.YtdibmepjbabnnabGreatDoor

/- The walk of impl.putInts: b, and behind it the bytes of each number. -/
namespace Go.Proofs.YtdibmepjbabnnabGreatDoor
open Go.RowKit

def putTo (ns : List Int) (k : Nat) : List Int := (ns.take k).flatMap putOf
theorem putTo_succ (ns : List Int) (k : Nat) (h : k < ns.length) : putTo ns (k + 1) = putTo ns k ++ putOf (ns.getD k 0) := by
  unfold putTo
  rw [List.take_succ_eq_append_getElem h, List.flatMap_append]
  simp [List.getD, h]
theorem putTo_all (ns : List Int) (k : Nat) (h : ns.length ≤ k) : putTo ns k = ns.flatMap putOf := by
  unfold putTo; rw [List.take_of_length_le h]
theorem putTo_len (ns : List Int) (k : Nat) : (putTo ns k).length ≤ 65 * k := by
  induction k with
  | zero => simp [putTo]
  | succ k ih =>
    by_cases h : k < ns.length
    · rw [putTo_succ ns k h, List.length_append]
      have := (putOf_len (ns.getD k 0)).2
      omega
    · rw [putTo_all ns _ (by omega), ← putTo_all ns k (by omega)]
      omega

set_option maxHeartbeats 400000 in
set_option maxRecDepth 100000 in
theorem putInts_any (a : Option Addr) (c : Nat) (zs : List Int) (na : Option Addr) (nc : Nat) (ns : List Int) (w : World) (hr : Reads w a zs) (hc : a = none → c = 0) (hn : ReadsI w na ns)
    (hl : zs.length + 65 * ns.length ≤ 70368744170000) :
    Calls Tryz.prog 16 #[.slice a zs.length c, .slice na ns.length nc] w fun e w' => ∃ a' c' ys, e = .returned (.slice a' ys.length c') ∧ ys = zs ++ ns.flatMap putOf ∧ OwnB w' w.heap.size a' c' ys ∧ Below w.heap.size w w' := by
  obtain ⟨i0, hi, hz0, hz1, hz2⟩ := info_parts Tryz.infoU8
  have fin : ns = [] ∨ ∃ b off, na = some ⟨b, off, none⟩ ∧ 0 < ns.length ∧ b < w.heap.size ∧ ∀ i, i < ns.length → w.cell? ⟨b, off + i, none⟩ = some (.int .i64 (ns.getD i 0)) := by
    by_cases e : ns = []
    · exact .inl e
    · obtain ⟨b, off, h1, h2⟩ := hn e
      have hp := List.length_pos_iff.2 e
      exact .inr ⟨b, off, h1, hp, block_lt (h2 0 hp), h2⟩
  have HC : Hid (a = none → c = 0) := hc
  clear hc
  rcases fin with rfl | ⟨b, off, rfl, hpos, hbB, hcell⟩
  · go_enter Tryz.func16, Tryz.ntmps16
    go_wp2_with (first | (at_make; refine wpList_make_own _ rfl _ _ 22 rfl w.heap.size 5 i0 (.int .u8 0) 1 Tryz.underlying22 hi hz0 hz1 _ _ _ zs.length rfl rfl (by simp) (by rw [hz2]; omega) (by simp only [maxLen]; omega) (Nat.le_refl _) ?_) | fail)
    intro w0 hown0 hgrow0
    have hb0 : Below w.heap.size w w0 := (Below.refl _ _).grown hgrow0 (Nat.le_refl _) (fun k h => by cases h)
    have ho0 : OwnB w0 w.heap.size (some ⟨w.heap.size, 0, none⟩) zs.length [] := ⟨by simp, hown0⟩
    have hr0 := hr.below hb0
    have hs0 := hb0.size
    clear hown0 hgrow0 hr
    go_wp2_with (at_builtin; refine append_bytes rfl _ _ rfl w.heap.size _ _ [] rfl ho0 a c zs rfl hr0 HC.out (by simp; omega) hs0 ?_; intro a1 c1 y1 w1 hy1 ho1 hg1)
    have hb1 := hb0.grown hg1 hs0 (fun k hk => (ho0.2.lt k hk).1)
    refine wp_loop_rounds 1 ?_
    rw [rounds_succ]
    go_wp2
    go_ret
    exact ⟨a1, c1, y1, rfl, by rw [hy1.out]; simp, ho1, hb1⟩
  · go_enter Tryz.func16, Tryz.ntmps16
    go_wp2_with (first | (at_make; refine wpList_make_own _ rfl _ _ 22 rfl w.heap.size 5 i0 (.int .u8 0) 1 Tryz.underlying22 hi hz0 hz1 _ _ _ (zs.length + 6 * ns.length) rfl rfl (by omega) (by rw [hz2]; omega) (by simp only [maxLen]; omega) (Nat.le_refl _) ?_) | fail)
    intro w0 hown0 hgrow0
    have hb0 : Below w.heap.size w w0 := (Below.refl _ _).grown hgrow0 (Nat.le_refl _) (fun k h => by cases h)
    have ho0 : OwnB w0 w.heap.size (some ⟨w.heap.size, 0, none⟩) (zs.length + 6 * ns.length) [] := ⟨by simp, hown0⟩
    have hr0 := hr.below hb0
    have hs0 := hb0.size
    clear hown0 hgrow0 hr
    go_wp2_with (at_builtin; refine append_bytes rfl _ _ rfl w.heap.size _ _ [] rfl ho0 a c zs rfl hr0 HC.out (by simp; omega) hs0 ?_; intro a1 c1 y1 w1 hy1 ho1 hg1)
    have hb1 := hb0.grown hg1 hs0 (fun k hk => (ho0.2.lt k hk).1)
    clear ho0 hr0 hg1 hb0 hs0
    go_loopw [5, 20] (fun out i wr => ∃ (a' : Option Addr) (c' : Nat) (ys : List Int) (k : Nat), out = .slice a' ys.length c' ∧ i = .int .i64 k ∧ k ≤ ns.length ∧ OwnB wr w.heap.size a' c' ys ∧ Hid (ys = zs ++ putTo ns k) ∧ Below w.heap.size w wr)
      (fun _ i _ => ns.length - (intOf i).toNat)
    case atStart => exact ⟨a1, c1, y1, 0, rfl, rfl, Nat.zero_le _, ho1, by rw [Hid, hy1.out]; simp [putTo], hb1⟩
    case round =>
      obtain ⟨a', c', ys, k, rfl, rfl, hk, ho, hy, hnx⟩ := hrel
      clear ho1 hb1 hy1
      have hsz := hnx.size
      have hyl : ys.length ≤ 70368744177000 := by
        have e := congrArg List.length hy.out
        have := putTo_len ns k
        rw [List.length_append] at e
        omega
      by_cases hlt : k < ns.length
      · have hcx : wr.cell? ⟨b, off + k, none⟩ = some (.int .i64 (ns.getD k 0)) := (hnx.cell (by exact hbB)).trans (hcell k hlt)
        have HS : Hid (putTo ns (k + 1) = _) := putTo_succ ns k hlt
        have HZ := zig_le (ns.getD k 0)
        have HP : Hid (putOf (ns.getD k 0) = groups (zig (ns.getD k 0))) := rfl
        clear hcell
        generalize ns.getD k 0 = n at *
        go_wp2_with fail
        refine (foldSign_any n wr).mono ?_
        rintro e w2 ⟨rfl, rfl⟩
        go_wp2_with fail
        refine (appendGroups_any w.heap.size a' c' ys (zig n) w2 ho HZ hyl hsz).mono ?_
        rintro e w3 ⟨a3, c3, y3, rfl, hy3, ho3, hb3⟩
        have HY : Hid (y3 = zs ++ putTo ns (k + 1)) := by rw [Hid, hy3, hy.out, HS.out, HP.out, List.append_assoc]
        clear hy3
        go_wp2
        go_roundw
        case rel => exact ⟨a3, c3, y3, k + 1, rfl, by go_num, by omega, ho3, HY, hnx.trans hb3⟩
        case measure => simp [intOf]; omega
      · have HE : Hid (ys = zs ++ ns.flatMap putOf) := by rw [Hid, hy.out, putTo_all ns k (by omega)]
        go_wp2
        go_ret
        exact ⟨a', c', ys, rfl, HE.out, ho, hnx⟩
end Go.Proofs.YtdibmepjbabnnabGreatDoor

/- No longer than its capacity; a beginning of what is owned. -/
namespace Go.Proofs.YtdibmepjbabnnabGreatDoor
open Go.RowKit

theorem OwnB.len_cap {w : World} {base : Nat} {a : Option Addr} {c : Nat} {ys : List Int} (h : OwnB w base a c ys) : ys.length ≤ c := by
  rcases h.2.2 with ⟨hv, h0⟩ | ⟨g, cap, cur, hv, _, _, hn, _⟩
  · omega
  · simp only [Value.slice.injEq] at hv
    omega

theorem own_prefix {w : World} {base : Nat} {a : Option Addr} {c : Nat} {ys : List Int} (h : OwnB w base a c ys) (k : Nat) : Reads w a (ys.take k) := by
  refine ⟨fun z hz => h.1 z (List.mem_of_mem_take hz), fun hne => ?_⟩
  have hy : ys ≠ [] := by intro e; simp [e] at hne
  obtain ⟨b, off, ha, hc⟩ := h.reads.2 hy
  refine ⟨b, off, ha, fun i hi => ?_⟩
  have hi2 : i < k ∧ i < ys.length := by simp at hi; omega
  rw [hc i hi2.2]
  have : (ys.take k).getD i 0 = ys.getD i 0 := by simp [List.getD, hi2.1]
  rw [this]

end Go.Proofs.YtdibmepjbabnnabGreatDoor

/- The walk of laws.big. -/
namespace Go.Proofs.YtdibmepjbabnnabGreatDoor
open Go.RowKit

set_option maxHeartbeats 400000 in
theorem big_any (a : Option Addr) (c n : Nat) (w : World) : Calls Tryz.prog 4 #[.slice a n c] w fun e w' => e = .returned (.bool (decide (1048576 < n))) ∧ w' = w := by
  by_cases h : 1048576 < n
  · have HB : Hid (decide (1048576 < n) = true) := decide_eq_true h
    go_enter Tryz.func4, Tryz.ntmps4
    go_wp2
    go_ret
    exact ⟨by rw [HB.out]; exact ret_bool (decide_eq_true (by omega)), rfl⟩
  · have HB : Hid (decide (1048576 < n) = false) := decide_eq_false h
    go_enter Tryz.func4, Tryz.ntmps4
    go_wp2
    go_ret
    exact ⟨by rw [HB.out]; exact ret_bool (decide_eq_false (by omega)), rfl⟩

end Go.Proofs.YtdibmepjbabnnabGreatDoor
