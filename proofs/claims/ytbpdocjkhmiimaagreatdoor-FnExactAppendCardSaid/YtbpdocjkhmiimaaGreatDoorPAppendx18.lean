/- Several texts in one, in their order. -/
import Derived.Test.YtbpdocjkhmiimaaGreatDoorPAppendx8
import Derived.Test.YtbpdocjkhmiimaaGreatDoorPAppendx4
import Derived.Test.YtbpdocjkhmiimaaGreatDoorPAppendx10
import Derived.Deep.QuietTactic
import Derived.BigQuiet
import Derived.Test.YtbpdocjkhmiimaaGreatDoorPAppendx2
import Derived.Deep.AppendLies
import Derived.Laws.AppendOwnNone
/- The walk of impl.SameObj. -/
namespace Go.Proofs.YtbpdocjkhmiimaaGreatDoor
open Go.RowKit

set_option maxHeartbeats 400000 in
theorem equalInts_any (a b : Option Addr) (ca cb : Nat) (xs ys : List Int) (w : World) (ha : ReadsI w a xs) (hb : ReadsI w b ys) (hl : xs.length ≤ 1099511627776) (hl2 : ys.length ≤ 1099511627776) :
    Calls Tryz.prog 155 #[.slice a xs.length ca, .slice b ys.length cb] w fun e w' => e = .returned (.bool (decide (xs = ys))) ∧ ∃ n, w' = w.drewN n := by
  by_cases hle : xs.length = ys.length
  case neg =>
    have HE : Hid (_ = _) := ne_len hle
    have hle' : ((xs.length : Int) == (ys.length : Int)) = false := by simp; omega
    go_enter Tryz.func155, Tryz.ntmps155
    go_wp2
    go_ret
    exact ⟨ret_bool HE.out.symm, 0, rfl⟩
  case pos =>
  have HL : Hid (xs.length = ys.length) := hle
  have hle' : ((xs.length : Int) == (ys.length : Int)) = true := by simp; omega
  rcases ha.cases with rfl | ⟨b1, o1, rfl, hpos, hc1⟩
  · obtain rfl : ys = [] := List.length_eq_zero_iff.1 (by simpa using hle.symm)
    have HE : Hid (decide (([] : List Int) = []) = true) := by simp [Hid]
    clear hle hle' HL
    go_enter Tryz.func155, Tryz.ntmps155
    go_wp2
    refine wp_loop_rounds 1 ?_
    rw [rounds_succ]
    go_wp2
    go_ret
    exact ⟨ret_bool HE.out.symm, 0, rfl⟩
  · rcases hb.cases with rfl | ⟨b2, o2, rfl, _, hc2⟩
    · simp at hle; simp [hle] at hpos
    · clear hle
      go_enter Tryz.func155, Tryz.ntmps155
      go_wp2
      go_loopw [13] (fun i wr => ∃ k : Nat, k ≤ xs.length ∧ i = .int .i64 k ∧ Hid (∀ t, t < k → xs.getD t 0 = ys.getD t 0) ∧ ∃ n, wr = w.drewN n) (fun i _ => xs.length - (intOf i).toNat)
      case atStart => exact ⟨0, Nat.zero_le _, rfl, fun t ht => by omega, 0, rfl⟩
      case round =>
        obtain ⟨k, hk, rfl, hall, n, rfl⟩ := hrel
        by_cases hlt : k < xs.length
        · have h1 := hc1 k hlt
          have h2 := hc2 k (by have := HL.out; omega)
          have hlt2 : (k : Int) < (ys.length : Int) := by have := HL.out; omega
          clear hc1 hc2
          by_cases hz : xs.getD k 0 = ys.getD k 0
          · have HN : Hid (∀ t, t < k + 1 → xs.getD t 0 = ys.getD t 0) := by
              intro t ht
              by_cases e : t = k
              · rw [e]; exact hz
              · exact hall.out t (by omega)
            rw [← hz] at h2
            clear hz
            generalize xs.getD k 0 = z at *
            go_wp2
            go_quiet (fail)
            go_wp2
            go_roundw
            case rel => exact ⟨k + 1, by omega, by go_num, HN, _, rfl⟩
            case measure => simp [intOf]; omega
          · have HE : Hid (_ = _) := ne_at k hz
            have hzb : (xs.getD k 0 == ys.getD k 0) = false := by simpa using hz
            clear hz
            generalize xs.getD k 0 = z at *
            generalize ys.getD k 0 = y at *
            go_wp2
            go_quiet (fail)
            go_wp2
            go_ret
            exact ⟨ret_bool HE.out.symm, n + nq, by first | rfl | simp⟩
        · have HE : Hid (_ = _) := eq_all HL.out (fun t ht => hall.out t (by omega))
          go_wp2
          go_ret
          exact ⟨ret_bool HE.out.symm, n, rfl⟩

set_option maxHeartbeats 1000000 in
set_option maxRecDepth 100000 in
theorem implSameObj_any (o p : ObjV) (aI : Option Addr) (cI : Nat) (aR : Option Addr) (cR : Nat) (bI : Option Addr) (dI : Nat) (bR : Option Addr) (dR : Nat) (w : World) (ha : ReadsO w aI cI aR cR o) (hb : ReadsO w bI dI bR dR p) (h1 : o.ints.length ≤ 1099511627776) (h2 : o.refs.length ≤ 1099511627776) (h3 : p.ints.length ≤ 1099511627776) (h4 : p.refs.length ≤ 1099511627776) :
    Calls Tryz.prog 140 #[.agg #[.int .i64 o.kind, .slice aI o.ints.length cI, .slice aR o.refs.length cR], .agg #[.int .i64 p.kind, .slice bI p.ints.length dI, .slice bR p.refs.length dR]] w fun e w' => e = .returned (.bool (sameO o p)) ∧ Below w.heap.size w w' := by
  obtain ⟨k, ints, refs⟩ := o
  obtain ⟨k', ints', refs'⟩ := p
  obtain ⟨haI, haR, _, _⟩ := ha
  obtain ⟨hbI, hbR, _, _⟩ := hb
  simp only at *
  obtain ⟨W, hW, b0, b1, hbW, hsW⟩ := boxes2 w [.int .i64 k, .slice aI ints.length cI, .slice aR refs.length cR] [.int .i64 k', .slice bI ints'.length dI, .slice bR refs'.length dR] 37 37
  by_cases hk : k = k'
  case neg =>
    have HE : Hid (sameO ⟨k, ints, refs⟩ ⟨k', ints', refs'⟩ = false) := by simp [Hid, sameO, hk]
    have hkb : (k == k') = false := by simpa using hk
    clear hk
    go_enter Tryz.func140, Tryz.ntmps140
    go_wp2
    go_ret
    exact ⟨ret_bool HE.out.symm, by rw [hW.out]; exact hbW⟩
  case pos =>
  subst hk
  have HE : Hid (sameO ⟨k, ints, refs⟩ ⟨k, ints', refs'⟩ = (decide (ints = ints') && decide (refs = refs'))) := by simp [Hid, sameO]
  go_enter Tryz.func140, Tryz.ntmps140
  go_wp2_with fail
  rw [hW.out]
  refine (equalInts_any aI bI cI dI ints ints' W (haI.below hbW) (hbI.below hbW) h1 h3).mono ?_
  rintro e w1 ⟨rfl, n1, rfl⟩
  have c0 := (b0.drewN n1).cell 2 _ rfl
  have c1 := (b1.drewN n1).cell 2 _ rfl
  have hb1 : Below w.heap.size w (W.drewN n1) := below_drewN hbW n1
  cases hd : decide (ints = ints') with
  | false =>
    rw [hd] at HE
    clear hd
    go_wp2
    go_ret
    exact ⟨ret_bool (by rw [HE.out]; rfl), hb1⟩
  | true =>
    rw [hd] at HE
    clear hd
    go_wp2_with fail
    refine (equalInts_any aR bR cR dR refs refs' (W.drewN n1) (haR.below hb1) (hbR.below hb1) h2 h4).mono ?_
    rintro e w2 ⟨rfl, n2, rfl⟩
    generalize decide (refs = refs') = D at *
    go_wp2
    go_ret
    exact ⟨ret_bool (by rw [HE.out]; rfl), below_drewN hbW (n1 + n2)⟩
end Go.Proofs.YtbpdocjkhmiimaaGreatDoor

/- The cursor of a draw: what spec.l1Byte and spec.l1Below answer and leave. -/
namespace Go.Proofs.YtbpdocjkhmiimaaGreatDoor
open Go.RowKit

/-- A cursor over the bytes zs lies in block B. -/
def CurAt (w : World) (B : Nat) (zs : List Int) : Prop :=
  ∃ (a : Option Addr) (c i : Nat) (h : Int), w.heap[B]? = some (.cells #[.slice a zs.length c, .int .i64 i, .int .i64 h] 109 (0, 0)) ∧ i ≤ zs.length ∧ Reads w a zs ∧ (zs ≠ [] → ∀ b off, a = some ⟨b, off, none⟩ → b < B)

theorem cell_of3 {w : World} {B : Nat} {v0 v1 v2 : Value} {t : TypeId} (h : w.heap[B]? = some (.cells #[v0, v1, v2] t (0, 0))) :
    w.cell? ⟨B, 0, none⟩ = some v0 ∧ w.cell? ⟨B, 1, none⟩ = some v1 ∧ w.cell? ⟨B, 2, none⟩ = some v2 ∧ (∀ o, w.frozen? ⟨B, o, none⟩ = false) := by
  refine ⟨?_, ?_, ?_, fun o => ?_⟩
  · simp [World.cell?, h]
  · simp [World.cell?, h]
  · simp [World.cell?, h]
  · simp [World.frozen?, h]

theorem set_of3 {w : World} {B : Nat} {v0 v1 v2 u : Value} {t : TypeId} (h : w.heap[B]? = some (.cells #[v0, v1, v2] t (0, 0))) :
    (w.setCell ⟨B, 1, none⟩ u).heap[B]? = some (.cells #[v0, u, v2] t (0, 0)) ∧ (w.setCell ⟨B, 2, none⟩ u).heap[B]? = some (.cells #[v0, v1, u] t (0, 0)) := by
  constructor
  · rw [heap_setCell_same w B 1 _ t u h]; simp
  · rw [heap_setCell_same w B 2 _ t u h]; simp

theorem grown_set (w : World) (B o : Nat) (u : Value) : w.grownBy (w.setCell ⟨B, o, none⟩ u) (some B) :=
  ⟨rfl, rfl, rfl, by simp, fun k _ hk => heap_setCell_other w ⟨B, o, none⟩ k u (fun e => hk (by simp [e]))⟩

theorem grown_drew_set (w : World) (n B o : Nat) (u : Value) : w.grownBy ((w.drewN n).setCell ⟨B, o, none⟩ u) (some B) :=
  ⟨rfl, rfl, rfl, by simp, fun k _ hk => heap_setCell_other (w.drewN n) ⟨B, o, none⟩ k u (fun e => hk (by simp [e]))⟩

theorem Reads.grown {w w' : World} {a : Option Addr} {zs : List Int} {B : Nat} (h : Reads w a zs) (hg : w.grownBy w' (some B)) (hne : zs ≠ [] → ∀ b off, a = some ⟨b, off, none⟩ → b ≠ B) : Reads w' a zs := by
  refine ⟨h.1, fun e => ?_⟩
  obtain ⟨b, off, ha, hc⟩ := h.2 e
  refine ⟨b, off, ha, fun i hi => hg.cell (hc i hi) ?_⟩
  intro he
  exact hne e b off ha (Option.some.inj he)

theorem CurAt.lt {w : World} {B : Nat} {zs : List Int} (h : CurAt w B zs) : B < w.heap.size := by
  obtain ⟨a, c, i, h, hh, _⟩ := h
  exact (Array.getElem?_eq_some_iff.1 hh).1

theorem CurAt.kept {w w' : World} {B : Nat} {zs : List Int} {row : Option Nat} (h : CurAt w B zs) (hg : w.grownBy w' row) (hrow : ∀ k, row = some k → B < k) : CurAt w' B zs := by
  have hB := h.lt
  obtain ⟨a, c, i, h, hh, hi, hr, hlt⟩ := h
  refine ⟨a, c, i, h, ?_, hi, ⟨hr.1, fun e => ?_⟩, hlt⟩
  · rw [hg.block B hB (fun e => by have := hrow B e.symm; omega)]; exact hh
  · obtain ⟨b, off, ha, hc⟩ := hr.2 e
    refine ⟨b, off, ha, fun j hj => hg.cell (hc j hj) ?_⟩
    intro he
    have h1 := hlt e b off ha
    have h2 := hrow b he.symm
    omega

theorem CurAt.alloc {w : World} {B : Nat} {zs : List Int} (h : CurAt w B zs) (o : Obj) : CurAt (w.alloc o) B zs := h.kept (World.grownBy_alloc w o none) (fun k e => by cases e)

theorem CurAt.below {w w' : World} {B : Nat} {zs : List Int} (h : CurAt w B zs) (hb : Below w.heap.size w w') : CurAt w' B zs :=
  h.kept (row := none) ⟨hb.os, hb.tape, hb.output, hb.size, fun k hk _ => hb.block k hk⟩ (fun k e => by cases e)

theorem grownBy_new {w w1 w2 : World} {r row : Option Nat} (h : w.grownBy w1 r) (hg : w1.grownBy w2 row) (hrow : ∀ k, row = some k → w.heap.size ≤ k) : w.grownBy w2 r :=
  ⟨hg.os.trans h.os, hg.tape.trans h.tape, hg.output.trans h.output, Nat.le_trans h.size hg.size, fun k hk hr => (hg.block k (Nat.lt_of_lt_of_le hk h.size) (fun e => by have := hrow k e.symm; omega)).trans (h.block k hk hr)⟩

theorem i64_and255 (n : Int) : bits .and .i64 n 255 = n % 256 := by
  have h1 : (BitVec.ofInt 64 255).toNat = 2 ^ 8 - 1 := by decide
  have key : (BitVec.ofInt 64 n &&& BitVec.ofInt 64 255).toNat = (n % ((2 ^ 64 : Nat) : Int)).toNat % 2 ^ 8 := by
    rw [BitVec.toNat_and, BitVec.toNat_ofInt, h1, Nat.and_two_pow_sub_one_eq_mod]
  show IntKind.i64.wrap ((BitVec.ofInt 64 n &&& BitVec.ofInt 64 255).toNat : Nat) = n % 256
  rw [key, IntKind.wrap_i64]
  omega

theorem ret_nat {a : Int} (h0 : 0 ≤ a) : Ending.returned (.int .i64 a) = .returned (.int .i64 ((a.toNat : Nat) : Int)) := by rw [Int.toNat_of_nonneg h0]

set_option maxHeartbeats 1000000 in
theorem l1Byte_any (B : Nat) (zs : List Int) (w : World) (hc : CurAt w B zs) (hl : zs.length ≤ 70368744177664) :
    Calls Tryz.prog 94 #[.pointer (some ⟨B, 0, none⟩)] w fun e w' => ∃ x : Nat, e = .returned (.int .i64 x) ∧ x < 256 ∧ CurAt w' B zs ∧ w.grownBy w' (some B) := by
  obtain ⟨a, c, i, h, hh, hi, hr, hlt0⟩ := hc
  have hne : zs ≠ [] → ∀ b off, a = some ⟨b, off, none⟩ → b ≠ B := fun h b off e => Nat.ne_of_lt (hlt0 h b off e)
  obtain ⟨c0, c1, c2, hf⟩ := cell_of3 hh
  have hf2 := hf 2
  clear hf
  have ha := i64_and255
  go_enter Tryz.func94, Tryz.ntmps94
  go_wp2
  generalize wrap64 (wrap64 (h * 6364136223846793005) + 1442695040888963407) = h1
  have hh1 := (set_of3 (u := .int .i64 h1) hh).2
  have hg1 := grown_set w B 2 (.int .i64 h1)
  have hr1 := hr.grown hg1 hne
  clear c0 c1 c2 hf2 hh hr
  generalize w.setCell ⟨B, 2, none⟩ (.int .i64 h1) = w1 at *
  obtain ⟨c0, c1, c2, hf⟩ := cell_of3 hh1
  have hf1 := hf 1
  clear hf
  go_quiet (fail)
  go_wp2
  have hxb : 0 ≤ bits .xor .i64 (h1 / 8589934592) (h1 / 140737488355328) % 256 ∧ bits .xor .i64 (h1 / 8589934592) (h1 / 140737488355328) % 256 < 256 := by omega
  generalize bits .xor .i64 (h1 / 8589934592) (h1 / 140737488355328) % 256 = y at *
  by_cases hlt : i < zs.length
  · rcases hr1.cases with rfl | ⟨b, off, rfl, hpos, hcell⟩
    · simp at hlt
    have hck := hcell i hlt
    have hby := bytes_at hr1.byte i
    clear hcell
    generalize zs.getD i 0 = z at *
    go_quiet (fail)
    go_wp2
    go_quiet (fail)
    go_wp2
    go_ret
    refine ⟨((y + z) % 256).toNat, ret_nat (by omega), by omega, ⟨some ⟨b, off, none⟩, c, i + 1, h1, ?_, by omega, ?_, hlt0⟩, ?_⟩
    · exact (set_of3 (u := .int .i64 ((i : Int) + 1)) hh1).1
    · exact hr1.grown (grown_drew_set w1 _ B 1 _) hne
    · exact grownBy_trans hg1 (grown_drew_set w1 _ B 1 _)
  · go_quiet (fail)
    go_wp2
    go_ret
    exact ⟨y.toNat, ret_nat hxb.1, by omega, ⟨a, c, i, h1, hh1, hi, hr1, hlt0⟩, ⟨hg1.os, hg1.tape, hg1.output, hg1.size, hg1.block⟩⟩

set_option maxHeartbeats 400000 in
theorem l1Below_any (B : Nat) (zs : List Int) (n : Int) (w : World) (hc : CurAt w B zs) (hl : zs.length ≤ 70368744177664) (hn : n ≤ 1000000000) :
    Calls Tryz.prog 54 #[.pointer (some ⟨B, 0, none⟩), .int .i64 n] w fun e w' => ∃ x : Nat, e = .returned (.int .i64 x) ∧ (0 < n → (x : Int) < n) ∧ CurAt w' B zs ∧ w.grownBy w' (some B) := by
  by_cases h0 : n ≤ 0
  · go_enter Tryz.func54, Tryz.ntmps54
    go_wp2
    go_ret
    exact ⟨0, rfl, fun h => by omega, hc, World.grownBy.refl _ _⟩
  by_cases h1 : n ≤ 256
  · go_enter Tryz.func54, Tryz.ntmps54
    go_wp2_with fail
    refine (l1Byte_any B zs w hc hl).mono ?_
    rintro e w1 ⟨x, rfl, hx, hc1, hg1⟩
    have hnz : ¬ n = 0 := by omega
    go_wp2
    go_ret
    exact ⟨((x : Int) % n).toNat, ret_nat (Int.emod_nonneg _ hnz), fun h => by have := Int.emod_nonneg (x : Int) hnz; have := Int.emod_lt_of_pos (x : Int) h; omega, hc1, hg1⟩
  · go_enter Tryz.func54, Tryz.ntmps54
    go_wp2_with fail
    refine (l1Byte_any B zs w hc hl).mono ?_
    rintro e w1 ⟨x, rfl, hx, hc1, hg1⟩
    go_wp2_with fail
    refine (l1Byte_any B zs w1 hc1 hl).mono ?_
    rintro e w2 ⟨y, rfl, hy, hc2, hg2⟩
    go_wp2_with fail
    refine (l1Byte_any B zs w2 hc2 hl).mono ?_
    rintro e w3 ⟨z, rfl, hz, hc3, hg3⟩
    have hnz : ¬ n = 0 := by omega
    clear hc hc1 hc2
    go_wp2
    go_ret
    exact ⟨(((x : Int) * 65536 + (y : Int) * 256 + (z : Int)) % n).toNat, ret_nat (Int.emod_nonneg _ hnz), fun h => by have := Int.emod_nonneg ((x : Int) * 65536 + (y : Int) * 256 + (z : Int)) hnz; have := Int.emod_lt_of_pos ((x : Int) * 65536 + (y : Int) * 256 + (z : Int)) h; omega, hc3, grownBy_trans (grownBy_trans hg1 hg2) hg3⟩
end Go.Proofs.YtbpdocjkhmiimaaGreatDoor

/- The walks of spec.l1Int, l1Bytes and l1New. -/
namespace Go.Proofs.YtbpdocjkhmiimaaGreatDoor
open Go.RowKit

set_option maxHeartbeats 400000 in
theorem l1Int_any (B : Nat) (zs : List Int) (na : Option Addr) (nc : Nat) (ns : List Int) (w : World) (hc : CurAt w B zs) (hl : zs.length ≤ 70368744177664) (hn : ReadsI w na ns) (hne : ∀ b off, na = some ⟨b, off, none⟩ → b ≠ B) (h1 : 1 ≤ ns.length) (h2 : ns.length ≤ 1000) :
    Calls Tryz.prog 50 #[.pointer (some ⟨B, 0, none⟩), .slice na ns.length nc] w fun e w' => ∃ j : Nat, j < ns.length ∧ e = .returned (.int .i64 (ns.getD j 0)) ∧ CurAt w' B zs ∧ w.grownBy w' (some B) := by
  have HN : Hid (ReadsI w na ns) := hn
  have HNE : Hid (∀ b off, na = some ⟨b, off, none⟩ → b ≠ B) := hne
  obtain ⟨b, off, rfl, _⟩ := hn (by intro e; simp [e] at h1)
  clear hn hne
  go_enter Tryz.func50, Tryz.ntmps50
  go_wp2_with fail
  refine (l1Below_any B zs ns.length w hc hl (by omega)).mono ?_
  rintro e w1 ⟨x, rfl, hx, hc1, hg1⟩
  have hx' : x < ns.length := by have := hx (by omega); omega
  obtain ⟨b', off', hh, hcell⟩ := (HN.out.grown hg1 HNE.out) (by intro e; simp [e] at h1)
  cases hh
  have hcx := hcell x hx'
  clear hcell hx
  generalize hv : ns.getD x 0 = v at *
  have HV : Hid (ns.getD x 0 = v) := hv
  clear hv
  go_wp2
  go_ret
  exact ⟨x, hx', by rw [HV.out]; rfl, hc1, hg1⟩

set_option maxHeartbeats 400000 in
set_option maxRecDepth 100000 in
theorem l1New_any (a : Option Addr) (c : Nat) (zs : List Int) (w : World) (hr : Reads w a zs) (hl : zs.length ≤ 70368744177664) :
    Calls Tryz.prog 35 #[.slice a zs.length c] w fun e w' => e = .returned (.pointer (some ⟨w.heap.size, 0, none⟩)) ∧ CurAt w' w.heap.size zs ∧ Below w.heap.size w w' := by
  have HW : Hid (zs ≠ [] → ∀ b off, a = some ⟨b, off, none⟩ → b < w.heap.size) := by
    intro hne b off e
    obtain ⟨b', off', ha, hcc⟩ := hr.2 hne
    rw [ha] at e
    cases e
    exact block_lt (hcc 0 (List.length_pos_iff.2 hne))
  have HR : Hid (Reads w a zs) := hr
  have fin : ∀ h : Int, CurAt (w.alloc (.cells #[.slice a zs.length c, .int .i64 0, .int .i64 h] 109)) w.heap.size zs := fun h => ⟨a, c, 0, h, heap_alloc_new w _, by omega, HR.out.alloc _, HW.out⟩
  have FIN : Hid (∀ h : Int, CurAt (w.alloc (.cells #[.slice a zs.length c, .int .i64 0, .int .i64 h] 109)) w.heap.size zs) := fin
  clear fin
  rcases hr.cases with rfl | ⟨b, off, rfl, hpos, hcell⟩
  · clear hr
    go_enter Tryz.func35, Tryz.ntmps35
    go_wp2
    refine wp_loop_rounds 1 ?_
    rw [rounds_succ]
    go_wp2
    go_ret
    exact ⟨rfl, FIN.out _, (Below.refl _ _).alloc (Nat.le_refl _) _⟩
  · have hby := hr.byte
    clear hr
    go_enter Tryz.func35, Tryz.ntmps35
    go_wp2
    go_loop [3, 4] (fun hv i => ∃ (k : Nat) (h : Int), k ≤ zs.length ∧ k ≤ 4000 ∧ i = .int .i64 k ∧ hv = .int .i64 h) (fun _ i => 4000 - (intOf i).toNat)
    case atStart => exact ⟨0, _, by omega, by omega, rfl, rfl⟩
    case round =>
      obtain ⟨k, h, hk, hk4, rfl, rfl⟩ := hrel
      by_cases h1 : k < zs.length
      · by_cases h2 : k < 4000
        · have hck := hcell k h1
          have hbk := bytes_at hby k
          clear hcell hby
          generalize zs.getD k 0 = z at *
          go_wp2
          go_round
          case rel => exact ⟨k + 1, _, by omega, by omega, by go_num, rfl⟩
          case measure => simp [intOf]; omega
        · go_wp2
          go_ret
          exact ⟨rfl, FIN.out _, (Below.refl _ _).alloc (Nat.le_refl _) _⟩
      · go_wp2
        go_ret
        exact ⟨rfl, FIN.out _, (Below.refl _ _).alloc (Nat.le_refl _) _⟩
end Go.Proofs.YtbpdocjkhmiimaaGreatDoor

/- Appending numbers as a step of a region that draws its order; an object in a box of the call. -/
namespace Go.Proofs.YtbpdocjkhmiimaaGreatDoor
open Go.RowKit

theorem run_append_ints {w : World} (ty : TypeId) (lo hi : Nat) (a : Option Addr) (c : Nat) (xs : List Int) (hown : OwnI w lo hi a c xs)
    (sa : Option Addr) (sc : Nat) (zs : List Int) (hr : ReadsI w sa zs) (hc : sa = none → sc = 0) (hb : xs.length + zs.length ≤ 1099511627776) (hlo : lo ≤ w.heap.size) :
    ∃ a' c' ys w', (Builtin.append_ #[35, 35] ty #[.slice a xs.length c, .slice sa zs.length sc]).run Tryz.prog w = .ok (.slice a' ys.length c') w' ∧ Hid (ys = xs ++ zs) ∧ OwnI w' lo w'.heap.size a' c' ys ∧ w.grownBy w' (Value.slice a xs.length c).ownBlock ∧
      (∀ k, (Value.slice a' ys.length c').ownBlock = some k → (Value.slice a xs.length c).ownBlock = some k ∨ k = w.heap.size) := by
  obtain ⟨i0, hi0, hz0, hz1, hz2⟩ := info_parts Tryz.infoInt
  cases sa with
  | none =>
    have hz : zs = [] := by
      by_cases e : zs = []
      · exact e
      · obtain ⟨b, off, hh, _⟩ := hr e
        cases hh
    subst hz
    have := hc rfl
    subst this
    refine ⟨a, c, xs, w, run_append_owned_none (P := Tryz.prog) (w := w) lo 35 ty 3 i0 1 Tryz.underlying35 hi0 _ _ _ hown.1, (by simp [Hid]), ⟨hown.1, Nat.le_refl _, fun k hk => (hown.1.lt k hk).2⟩, World.grownBy.refl _ _, fun k hk => .inl hk⟩
  | some ad =>
    obtain ⟨v', w', h1, h2, h3, _, h5⟩ := run_append_own_at (P := Tryz.prog) w lo 35 ty 3 i0 (.int .i64 0) 1 8 Tryz.underlying35 hi0 hz0 hz1 hz2 rfl (by decide) _ _ _ hown.1 ad zs.length sc (zs.map (Value.int .i64)) (by simp) (by
      intro j u hj
      have hjl : j < zs.length := by
        by_cases e : j < zs.length
        · exact e
        · simp [List.getElem?_eq_none (Nat.le_of_not_lt e)] at hj
      have hne : zs ≠ [] := by intro e; simp [e] at hjl
      obtain ⟨b, off, hh, hcell⟩ := hr hne
      cases hh
      rw [Addr_add, hcell j hjl]
      simpa [hjl] using hj) (ints_oneCell _ _) (by simp only [maxLen]; omega) (by omega) hlo
    rw [← List.map_append, ← List.length_append] at h2
    have sh : ∃ a' c', v' = .slice a' (xs ++ zs).length c' := by
      rcases h2.2 with ⟨rfl, h0⟩ | ⟨g, cap, cur, rfl, _⟩
      · exact ⟨none, 0, by rw [h0]⟩
      · exact ⟨_, _, rfl⟩
    obtain ⟨a', c', rfl⟩ := sh
    refine ⟨a', c', xs ++ zs, w', h1, rfl, ⟨h2, Nat.le_refl _, fun k hk => (h2.lt k hk).2⟩, h3, fun k hk => ?_⟩
    rcases h5 with h5 | h5
    · exact .inl (by rw [← h5]; exact hk)
    · rw [h5] at hk
      exact .inr (Option.some.inj hk).symm

theorem step_append_ints {w : World} {ops : Array Oper} {o : Oper} {act : Act} {K : Act → World → Prop} {Q : Exit → Act → World → Prop} {E : Prop} (hgd : o.guard = none) (s x : Operand)
    (ho : o.op = .call { callee := .builtin .append, args := #[s, x], argTypes := #[35, 35] })
    (lo hi : Nat) (a : Option Addr) (c : Nat) (xs : List Int) (hs : act.eval s = .slice a xs.length c) (hown : OwnI w lo hi a c xs)
    (sa : Option Addr) (sc : Nat) (zs : List Int) (hx : act.eval x = .slice sa zs.length sc) (hr : ReadsI w sa zs) (hc : sa = none → sc = 0)
    (hb : xs.length + zs.length ≤ 1099511627776) (hlo : lo ≤ w.heap.size)
    (h : ∀ a' c' ys w', Hid (ys = xs ++ zs) → OwnI w' lo w'.heap.size a' c' ys → w.grownBy w' (Value.slice a xs.length c).ownBlock →
      (∀ k, (Value.slice a' ys.length c').ownBlock = some k → (Value.slice a xs.length c).ownBlock = some k ∨ k = w.heap.size) → K (act.put o.dst (.slice a' ys.length c')) w') :
    if Region.wanted o (yielded ops act.tmps) = true then Oper.wp Tryz.prog o act w K Q else E := by
  have hw : Region.wanted o (yielded ops act.tmps) = true := by simp [Region.wanted, hgd]
  rw [if_pos hw]
  obtain ⟨a', c', ys, w', hrun, h1, h2, h3, h4⟩ := run_append_ints (w := w) o.type lo hi a c xs hown sa sc zs hr hc hb hlo
  unfold Oper.wp execOp
  simp only [ho, resolve, invoke, builtin, Sem.run_bind, Sem.run_pure, Result.andThen_ok, List.map_toArray, List.map_cons, List.map_nil, hs, hx, hrun]
  exact h a' c' ys w' h1 h2 h3 h4

/-- An object lies in block Bo; its lists lie from lo on, and the call owns them. -/
structure ObjAt (w : World) (lo Bo : Nat) (o : ObjV) (aI : Option Addr) (cI : Nat) (aR : Option Addr) (cR : Nat) : Prop where
  box : Box w Bo [.int .i64 o.kind, .slice aI o.ints.length cI, .slice aR o.refs.length cR] 37
  own : OwnO w lo w.heap.size aI cI aR cR o
  lt : Bo < lo

theorem OwnO.kept {w w' : World} {lo hi : Nat} {aI : Option Addr} {cI : Nat} {aR : Option Addr} {cR : Nat} {o : ObjV} {B : Nat} (h : OwnO w lo hi aI cI aR cR o) (hg : w.grownBy w' (some B)) (hB : B < lo) : OwnO w' lo w'.heap.size aI cI aR cR o := by
  have h1 := h.ints.kept hg (fun k hk e => by have := (h.ints.lt k hk).1; cases e; omega)
  have h2 := h.refs.kept hg (fun k hk e => by have := (h.refs.lt k hk).1; cases e; omega)
  exact ⟨h1.widen (Nat.le_refl _) h1.2.1 (Nat.le_refl _), h2.widen (Nat.le_refl _) h2.2.1 (Nat.le_refl _), h.apart⟩

theorem ObjAt.kept {w w' : World} {lo Bo : Nat} {aI : Option Addr} {cI : Nat} {aR : Option Addr} {cR : Nat} {o : ObjV} {B : Nat} (h : ObjAt w lo Bo o aI cI aR cR) (hg : w.grownBy w' (some B)) (hB : B < Bo) : ObjAt w' lo Bo o aI cI aR cR :=
  ⟨h.box.block (hg.block Bo h.box.lt (fun e => by cases e; omega)), h.own.kept hg (by have := h.lt; omega), h.lt⟩
theorem ObjAt.alloc {w : World} {lo Bo : Nat} {aI : Option Addr} {cI : Nat} {aR : Option Addr} {cR : Nat} {o : ObjV} (h : ObjAt w lo Bo o aI cI aR cR) (ob : Obj) : ObjAt (w.alloc ob) lo Bo o aI cI aR cR :=
  ⟨h.box.alloc ob, (h.own.below ((Below.refl _ _).alloc (Nat.le_refl _) ob)).widen (Nat.le_refl _) (by simp) (Nat.le_refl _), h.lt⟩
theorem ObjAt.drew {w : World} {lo Bo : Nat} {aI : Option Addr} {cI : Nat} {aR : Option Addr} {cR : Nat} {o : ObjV} (h : ObjAt w lo Bo o aI cI aR cR) : ObjAt w.drew lo Bo o aI cI aR cR :=
  ⟨h.box, h.own.below (Below.refl _ _).drew, h.lt⟩
theorem ObjAt.three {w : World} {lo Bo : Nat} {aI : Option Addr} {cI : Nat} {aR : Option Addr} {cR : Nat} {o : ObjV} (h : ObjAt w lo Bo o aI cI aR cR) :
    w.cell? ⟨Bo, 0, none⟩ = some (.int .i64 o.kind) ∧ w.cell? ⟨Bo, 1, none⟩ = some (.slice aI o.ints.length cI) ∧ w.cell? ⟨Bo, 2, none⟩ = some (.slice aR o.refs.length cR) ∧ w.frozen? ⟨Bo, 0, none⟩ = false ∧ w.frozen? ⟨Bo, 1, none⟩ = false ∧ w.frozen? ⟨Bo, 2, none⟩ = false := h.box.three

theorem Box.grown {w w' : World} {C B : Nat} {vs : List Value} {t : TypeId} (h : Box w C vs t) (hg : w.grownBy w' (some B)) (hne : C ≠ B) : Box w' C vs t := h.block (hg.block C h.lt (fun e => hne (Option.some.inj e)))
theorem CurAt.drew {w : World} {B : Nat} {zs : List Int} (h : CurAt w B zs) : CurAt w.drew B zs := h
theorem grown_drew (w : World) (r : Option Nat) : w.grownBy w.drew r := ⟨rfl, rfl, rfl, Nat.le_refl _, fun _ _ _ => rfl⟩

/-- The lists after an append to the first: the object in its box, the cursor, and all that was there. -/
theorem ObjAt.pushI {w0 w w' : World} {lo Bo B : Nat} {aI : Option Addr} {cI : Nat} {aR : Option Addr} {cR : Nat} {o : ObjV} {zs : List Int} (h : ObjAt w lo Bo o aI cI aR cR) (hc : CurAt w B zs) (hB : B < Bo) (hg0 : w0.grownBy w (some B)) (h0 : w0.heap.size ≤ Bo)
    {a' : Option Addr} {c' : Nat} {ys : List Int} (ho : OwnI w' lo w'.heap.size a' c' ys) (hg : w.grownBy w' (Value.slice aI o.ints.length cI).ownBlock)
    (hat : ∀ k, (Value.slice a' ys.length c').ownBlock = some k → (Value.slice aI o.ints.length cI).ownBlock = some k ∨ k = w.heap.size) :
    (w'.cell? ⟨Bo, 1, none⟩ = some (.slice aI o.ints.length cI) ∧ w'.frozen? ⟨Bo, 1, none⟩ = false) ∧
    ObjAt (w'.setCell ⟨Bo, 1, none⟩ (.slice a' ys.length c')) lo Bo ⟨o.kind, ys, o.refs⟩ a' c' aR cR ∧ CurAt (w'.setCell ⟨Bo, 1, none⟩ (.slice a' ys.length c')) B zs ∧ w0.grownBy (w'.setCell ⟨Bo, 1, none⟩ (.slice a' ys.length c')) (some B) ∧ (∀ b, b < lo → b ≠ Bo → b < w.heap.size → (w'.setCell ⟨Bo, 1, none⟩ (.slice a' ys.length c')).heap[b]? = w.heap[b]?) := by
  have hlt := h.lt
  have hb' : Box w' Bo _ _ := h.box.block (hg.block Bo h.box.lt (fun e => by have := (h.own.ints.lt Bo e.symm).1; omega))
  have hbs := hb'.set 1 (.slice a' ys.length c')
  simp only [List.set] at hbs
  have hgs := grown_set w' Bo 1 (.slice a' ys.length c')
  have hR' := h.own.refs.kept hg (fun k hk e => h.own.apart k e hk)
  have hI2 := ho.kept hgs (fun k hk e => by have := (ho.lt k hk).1; cases e; omega)
  have hR2 := hR'.kept hgs (fun k hk e => by have := (hR'.lt k hk).1; cases e; omega)
  refine ⟨⟨hb'.cell 1 _ rfl, hb'.frozen 1⟩, ⟨hbs, ⟨hI2.widen (Nat.le_refl _) hI2.2.1 (Nat.le_refl _), hR2.widen (Nat.le_refl _) hR2.2.1 (Nat.le_refl _), fun k hk => ?_⟩, hlt⟩, ?_, ?_, ?_⟩
  · rcases hat k hk with e | e
    · exact h.own.apart k e
    · intro e'
      have := (h.own.refs.lt k e').2
      omega
  · exact (hc.kept hg (fun k e => by have := (h.own.ints.lt k e).1; omega)).kept hgs (fun k e => by cases e; omega)
  · exact grownBy_new (grownBy_new hg0 hg (fun k e => by have := (h.own.ints.lt k e).1; omega)) hgs (fun k e => by cases e; omega)
  · intro b hb hn hbl
    rw [hgs.block b (by have := hg.size; omega) (fun e => hn (Option.some.inj e))]
    exact hg.block b hbl (fun e => by have := (h.own.ints.lt b e.symm).1; omega)

theorem ObjAt.pushR {w0 w w' : World} {lo Bo B : Nat} {aI : Option Addr} {cI : Nat} {aR : Option Addr} {cR : Nat} {o : ObjV} {zs : List Int} (h : ObjAt w lo Bo o aI cI aR cR) (hc : CurAt w B zs) (hB : B < Bo) (hg0 : w0.grownBy w (some B)) (h0 : w0.heap.size ≤ Bo)
    {a' : Option Addr} {c' : Nat} {ys : List Int} (ho : OwnI w' lo w'.heap.size a' c' ys) (hg : w.grownBy w' (Value.slice aR o.refs.length cR).ownBlock)
    (hat : ∀ k, (Value.slice a' ys.length c').ownBlock = some k → (Value.slice aR o.refs.length cR).ownBlock = some k ∨ k = w.heap.size) :
    (w'.cell? ⟨Bo, 2, none⟩ = some (.slice aR o.refs.length cR) ∧ w'.frozen? ⟨Bo, 2, none⟩ = false) ∧
    ObjAt (w'.setCell ⟨Bo, 2, none⟩ (.slice a' ys.length c')) lo Bo ⟨o.kind, o.ints, ys⟩ aI cI a' c' ∧ CurAt (w'.setCell ⟨Bo, 2, none⟩ (.slice a' ys.length c')) B zs ∧ w0.grownBy (w'.setCell ⟨Bo, 2, none⟩ (.slice a' ys.length c')) (some B) ∧ (∀ b, b < lo → b ≠ Bo → b < w.heap.size → (w'.setCell ⟨Bo, 2, none⟩ (.slice a' ys.length c')).heap[b]? = w.heap[b]?) := by
  have hlt := h.lt
  have hb' : Box w' Bo _ _ := h.box.block (hg.block Bo h.box.lt (fun e => by have := (h.own.refs.lt Bo e.symm).1; omega))
  have hbs := hb'.set 2 (.slice a' ys.length c')
  simp only [List.set] at hbs
  have hgs := grown_set w' Bo 2 (.slice a' ys.length c')
  have hI' := h.own.ints.kept hg (fun k hk e => h.own.apart k hk e)
  have hR2 := ho.kept hgs (fun k hk e => by have := (ho.lt k hk).1; cases e; omega)
  have hI2 := hI'.kept hgs (fun k hk e => by have := (hI'.lt k hk).1; cases e; omega)
  refine ⟨⟨hb'.cell 2 _ rfl, hb'.frozen 2⟩, ⟨hbs, ⟨hI2.widen (Nat.le_refl _) hI2.2.1 (Nat.le_refl _), hR2.widen (Nat.le_refl _) hR2.2.1 (Nat.le_refl _), fun k hk => ?_⟩, hlt⟩, ?_, ?_, ?_⟩
  · intro e'
    rcases hat k e' with e | e
    · exact h.own.apart k hk e
    · have := (h.own.ints.lt k hk).2
      omega
  · exact (hc.kept hg (fun k e => by have := (h.own.refs.lt k e).1; omega)).kept hgs (fun k e => by cases e; omega)
  · exact grownBy_new (grownBy_new hg0 hg (fun k e => by have := (h.own.refs.lt k e).1; omega)) hgs (fun k e => by cases e; omega)
  · intro b hb hn hbl
    rw [hgs.block b (by have := hg.size; omega) (fun e => hn (Option.some.inj e))]
    exact hg.block b hbl (fun e => by have := (h.own.refs.lt b e.symm).1; omega)
end Go.Proofs.YtbpdocjkhmiimaaGreatDoor
