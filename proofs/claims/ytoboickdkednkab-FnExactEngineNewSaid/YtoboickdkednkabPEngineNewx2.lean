/- Several texts in one, in their order. -/
import Derived.Test.YtoboickdkednkabPEngineNewx1
import Derived.Test.YtoboickdkednkabProg
import Derived.Deep.QuietTactic
import Derived.BigQuiet
import Derived.Laws.AppendOwnNone
import Derived.WalkSmall
/- Rows of slots: their cells, what is owned of them, a slot stored. -/
namespace Go.Proofs.Ytoboickdkednkab
open Go.RowKit

/-- A result that lies in a box: it is read as the load reads it. -/
theorem results_one {P : Program} {fn : Func} {s : Nat} {ty : TypeId} {tmps : Array Value} {w : World} {v : Value} {ad : Addr} (hf : fn.results = #[.cell s ty]) (ht : tmps[s]?.getD undef = .pointer (some ad)) (hl : (loadVar ty ad).run P w = .ok v w) : (results fn tmps).run P w = .ok v w := by
  unfold results
  rw [hf]
  simp [ht, asAddr, hl]

def cellsS (ss : List SlotA) : List Value := ss.flatMap SlotA.cells
def zeroS : SlotA := ⟨⟨false, ⟨0, [], []⟩⟩, none, 0, none, 0⟩

theorem cells_len (s : SlotA) : s.cells.length = 4 := rfl
theorem cellsS_len (ss : List SlotA) : (cellsS ss).length = ss.length * 4 := by
  induction ss with
  | nil => rfl
  | cons s r ih => simp only [cellsS, List.flatMap_cons, List.length_append, cells_len, List.length_cons] at *; omega
theorem cellsS_at (ss : List SlotA) (k j : Nat) (hk : k < ss.length) (hj : j < 4) : (cellsS ss)[k * 4 + j]? = (ss.getD k zeroS).cells[j]? := by
  induction ss generalizing k with
  | nil => simp at hk
  | cons s r ih =>
    have e : cellsS (s :: r) = s.cells ++ cellsS r := by simp [cellsS]
    rw [e]
    cases k with
    | zero => rw [List.getElem?_append_left (by rw [cells_len]; omega)]; simp
    | succ k =>
      rw [List.getElem?_append_right (by rw [cells_len]; omega), cells_len]
      have := ih k (by simpa using hk)
      rw [show (k + 1) * 4 + j - 4 = k * 4 + j by omega, this]
      simp
/-- The facts that a walk wants of slot k of a row of slots that lies in block B from cell o on. -/
theorem Box.slot {w : World} {B : Nat} {ss : List SlotA} {t : TypeId} (b : Box w B (cellsS ss) t) (k : Nat) (hk : k < ss.length) :
    w.cell? ⟨B, k * 4, none⟩ = some (.bool (ss.getD k zeroS).v.has) ∧ w.cell? ⟨B, k * 4 + 1, none⟩ = some (.int .i64 (ss.getD k zeroS).v.o.kind) ∧
    w.cell? ⟨B, k * 4 + 2, none⟩ = some (.slice (ss.getD k zeroS).aI (ss.getD k zeroS).v.o.ints.length (ss.getD k zeroS).cI) ∧ w.cell? ⟨B, k * 4 + 3, none⟩ = some (.slice (ss.getD k zeroS).aR (ss.getD k zeroS).v.o.refs.length (ss.getD k zeroS).cR) ∧
    (∀ i, w.frozen? ⟨B, i, none⟩ = false) :=
  ⟨b.cell _ _ (cellsS_at ss k 0 hk (by omega)), b.cell _ _ (cellsS_at ss k 1 hk (by omega)), b.cell _ _ (cellsS_at ss k 2 hk (by omega)), b.cell _ _ (cellsS_at ss k 3 hk (by omega)), fun i => b.frozen i⟩
/-- The blocks that a slot's lists own. -/
def SlotA.blocks (s : SlotA) : List Nat := (Value.slice s.aI s.v.o.ints.length s.cI).ownBlock.toList ++ (Value.slice s.aR s.v.o.refs.length s.cR).ownBlock.toList
/-- The slots own their lists; no two of them share a row. -/
structure OwnS (w : World) (lo hi : Nat) (ss : List SlotA) : Prop where
  each : ∀ s ∈ ss, s.own w lo hi
  apart : (ss.flatMap SlotA.blocks).Nodup

theorem SlotA.blocks_lt {w : World} {lo hi : Nat} {s : SlotA} (h : s.own w lo hi) : ∀ k ∈ s.blocks, lo ≤ k ∧ k < hi := by
  intro k hk
  rcases List.mem_append.1 hk with h1 | h1
  · exact h.ints.lt k (Option.mem_toList.1 h1)
  · exact h.refs.lt k (Option.mem_toList.1 h1)
theorem SlotA.blocks_nodup {w : World} {lo hi : Nat} {s : SlotA} (h : s.own w lo hi) : s.blocks.Nodup := by
  unfold SlotA.blocks
  cases h1 : (Value.slice s.aI s.v.o.ints.length s.cI).ownBlock with
  | none => cases h2 : (Value.slice s.aR s.v.o.refs.length s.cR).ownBlock <;> simp
  | some a =>
    cases h2 : (Value.slice s.aR s.v.o.refs.length s.cR).ownBlock with
    | none => simp
    | some b =>
      have := h.apart a h1
      rw [h2] at this
      have hne : b ≠ a := fun e => this (by rw [e])
      simp [Ne.symm hne]
theorem OwnS.nil (w : World) (lo hi : Nat) : OwnS w lo hi [] := ⟨by simp, by simp⟩
theorem OwnS.below {w w' : World} {lo hi : Nat} {ss : List SlotA} (h : OwnS w lo hi ss) (hb : Below w.heap.size w w') : OwnS w' lo hi ss := ⟨fun s hs => (h.each s hs).below hb, h.apart⟩
theorem OwnS.within {w w' : World} {lo hi l r : Nat} {ss : List SlotA} (h : OwnS w lo hi ss) (hw : Within l r w w') (hd : hi ≤ l ∨ r ≤ lo) : OwnS w' lo hi ss := ⟨fun s hs => (h.each s hs).within hw hd, h.apart⟩
theorem OwnS.widen {w : World} {lo hi lo' hi' : Nat} {ss : List SlotA} (h : OwnS w lo hi ss) (h1 : lo' ≤ lo) (h2 : hi ≤ hi') (h3 : hi' ≤ w.heap.size) : OwnS w lo' hi' ss := ⟨fun s hs => (h.each s hs).widen h1 h2 h3, h.apart⟩
theorem OwnS.blocks_lt {w : World} {lo hi : Nat} {ss : List SlotA} (h : OwnS w lo hi ss) : ∀ k ∈ ss.flatMap SlotA.blocks, lo ≤ k ∧ k < hi := by
  intro k hk
  obtain ⟨s, hs, hk'⟩ := List.mem_flatMap.1 hk
  exact SlotA.blocks_lt (h.each s hs) k hk'
def ReadsS (w : World) (ss : List SlotA) : Prop := ∀ s ∈ ss, s.reads w
theorem OwnS.reads {w : World} {lo hi : Nat} {ss : List SlotA} (h : OwnS w lo hi ss) : ReadsS w ss := fun s hs => OwnO.reads (h.each s hs)
theorem ReadsS.below {w w' : World} {ss : List SlotA} (h : ReadsS w ss) (hb : Below w.heap.size w w') : ReadsS w' ss := fun s hs => ReadsO.below (h s hs) hb
end Go.Proofs.Ytoboickdkednkab

/- The walk of laws.eqIntS. -/
namespace Go.Proofs.Ytoboickdkednkab
open Go.RowKit

set_option maxHeartbeats 400000 in
/-- Two slices that read alike are alike. -/
theorem eqIntS_same (a b : Option Addr) (ca cb : Nat) (zs : List Int) (w : World) (ha : ReadsI w a zs) (hb : ReadsI w b zs) (hl : zs.length ≤ 1099511627776) :
    Calls Try.prog 48 #[.slice a zs.length ca, .slice b zs.length cb] w fun e w' => e = .returned (.bool true) ∧ ∃ n, w' = w.drewN n := by
  rcases ha.cases with rfl | ⟨b1, o1, rfl, hpos, hc1⟩
  · go_enter Try.func48, Try.ntmps48
    go_wp2
    refine wp_loop_rounds 1 ?_
    rw [rounds_succ]
    go_wp2
    go_ret
    exact ⟨rfl, 0, rfl⟩
  · rcases hb.cases with rfl | ⟨b2, o2, rfl, _, hc2⟩
    · simp at hpos
    · go_enter Try.func48, Try.ntmps48
      go_wp2
      go_loopw [5] (fun i wr => ∃ k : Nat, k ≤ zs.length ∧ i = .int .i64 k ∧ ∃ n, wr = w.drewN n) (fun i _ => zs.length - (intOf i).toNat)
      case atStart => exact ⟨0, Nat.zero_le _, rfl, 0, rfl⟩
      case round =>
        obtain ⟨k, hk, rfl, n, rfl⟩ := hrel
        by_cases hlt : k < zs.length
        · have h1 := hc1 k hlt
          have h2 := hc2 k hlt
          clear hc1 hc2
          generalize zs.getD k 0 = z at *
          go_wp2
          go_quiet (fail)
          go_wp2
          go_roundw
          case rel => exact ⟨k + 1, by omega, by go_num, _, rfl⟩
          case measure => simp [intOf]; omega
        · go_wp2
          go_ret
          exact ⟨rfl, n, rfl⟩
end Go.Proofs.Ytoboickdkednkab

/- The walks of laws.markIntS and laws.heldIntS. -/
namespace Go.Proofs.Ytoboickdkednkab
open Go.RowKit

def marksI (k0 : Int) (n : Nat) : List Int := (List.range n).map fun i : Nat => k0 + i

theorem marksI_len (k0 : Int) (n : Nat) : (marksI k0 n).length = n := by simp [marksI]
theorem marksI_at (k0 : Int) (n i : Nat) (h : i < n) : (marksI k0 n).getD i 0 = k0 + i := by
  simp [marksI, List.getD, h]
theorem marksI_succ (k0 : Int) (n : Nat) : marksI k0 (n + 1) = marksI k0 n ++ [k0 + n] := by
  simp [marksI, List.range_succ]

def markedI (k0 : Int) (xs : List Int) (k : Nat) : List Int := marksI k0 k ++ xs.drop k
theorem markedI_set (k0 : Int) (xs : List Int) (k : Nat) (h : k < xs.length) : (markedI k0 xs k).set k (k0 + k) = markedI k0 xs (k + 1) := by
  unfold markedI
  rw [List.set_append, if_neg (by rw [marksI_len]; omega), marksI_len, Nat.sub_self, marksI_succ, List.drop_eq_getElem_cons h, List.set_cons_zero]
  simp
theorem markedI_set_map (k0 : Int) (xs : List Int) (k : Nat) (h : k < xs.length) : ((markedI k0 xs k).map (Value.int .i64)).set k (.int .i64 (k0 + k)) = (markedI k0 xs (k + 1)).map (Value.int .i64) := by
  rw [← markedI_set k0 xs k h, List.map_set]
theorem markedI_all (k0 : Int) (xs : List Int) : markedI k0 xs xs.length = marksI k0 xs.length := by simp [markedI]

set_option maxHeartbeats 400000 in
theorem markIntS_any (base : Nat) (a : Option Addr) (cap : Nat) (k0 : Int) (xs : List Int) (w : World)
    (hown : w.ownsRow base 3 1 (.slice a xs.length cap) xs.length (xs.map (Value.int .i64))) (h0 : 0 ≤ k0) (hl : k0 + xs.length ≤ 4611686018427387904) :
    Calls Try.prog 39 #[.slice a xs.length cap, .int .i64 k0] w fun e w' => e = .returned (.int .i64 (k0 + xs.length)) ∧
      w'.ownsRow base 3 1 (.slice a xs.length cap) xs.length ((marksI k0 xs.length).map (Value.int .i64)) ∧ w.grownBy w' (Value.slice a xs.length cap).ownBlock := by
  have hlen := hown.1
  rcases hown.2 with ⟨hv, h00⟩ | ⟨g, cap', cur, hv, hg, hgg, hr⟩
  · simp only [Value.slice.injEq] at hv
    obtain ⟨rfl, h00', rfl⟩ := hv
    obtain rfl := List.length_eq_zero_iff.1 h00
    go_enter Try.func39, Try.ntmps39
    go_wp2
    refine wp_loop_rounds 1 ?_
    rw [rounds_succ]
    go_wp2
    go_ret
    exact ⟨by simp, World.ownsRow_nil _ _ _ _, World.grownBy.refl _ _⟩
  · simp only [Value.slice.injEq] at hv
    obtain ⟨rfl, _, rfl⟩ := hv
    clear hgg hr hlen
    have hM : w.ownsRow base 3 1 (.slice (some ⟨g, 0, none⟩) xs.length cap) xs.length ((markedI k0 xs 0).map (Value.int .i64)) := by simpa [markedI, marksI] using hown
    clear hown
    go_enter Try.func39, Try.ntmps39
    go_wp2
    go_loopw [1, 5] (fun kk i wr => ∃ k : Nat, k ≤ xs.length ∧ i = .int .i64 k ∧ kk = .int .i64 (k0 + k) ∧ wr.ownsRow base 3 1 (.slice (some ⟨g, 0, none⟩) xs.length cap) xs.length ((markedI k0 xs k).map (Value.int .i64)) ∧ w.grownBy wr (some g))
      (fun _ i _ => xs.length - (intOf i).toNat)
    case atStart => exact ⟨0, Nat.zero_le _, rfl, by simp, hM, World.grownBy.refl _ _⟩
    case round =>
      obtain ⟨k, hk, rfl, rfl, hown, hgr⟩ := hrel
      clear hM
      by_cases hlt : k < xs.length
      · have hfz := hown.frozenAt k
        obtain ⟨u, hct⟩ := own_cell hown k hlt
        have HS := hown.stored k (.int .i64 (k0 + k))
        rw [markedI_set_map k0 xs k hlt] at HS
        have HSS : Hid (_ ∧ _) := HS
        clear HS hown
        go_wp2
        go_roundw
        case rel => exact ⟨k + 1, by omega, by go_num, by go_num, HSS.out.1, grownBy_trans hgr HSS.out.2⟩
        case measure => simp [intOf]; omega
      · have HE : Hid (wr.ownsRow base 3 1 (.slice (some ⟨g, 0, none⟩) xs.length cap) xs.length ((marksI k0 xs.length).map (Value.int .i64)) ∧ k = xs.length) := by
          have e : k = xs.length := by omega
          rw [e, markedI_all] at hown
          exact ⟨hown, e⟩
        go_wp2
        go_ret
        exact ⟨ret_int (by have := HE.out.2; omega), HE.out.1, hgr⟩

set_option maxHeartbeats 400000 in
theorem heldIntS_any (a : Option Addr) (cap : Nat) (k0 : Int) (n : Nat) (w : World) (hr : ReadsI w a (marksI k0 n)) (h0 : 0 ≤ k0) (hl : k0 + n ≤ 4611686018427387904) :
    Calls Try.prog 41 #[.slice a n cap, .int .i64 k0] w fun e w' => e = .returned (.int .i64 (k0 + n)) ∧ w' = w := by
  rcases hr.cases with h | ⟨b, off, rfl, hpos, hcell⟩
  · have h' := congrArg List.length h
    rw [marksI_len] at h'
    simp at h'
    subst h'
    go_enter Try.func41, Try.ntmps41
    go_wp2
    refine wp_loop_rounds 1 ?_
    rw [rounds_succ]
    go_wp2
    go_ret
    exact ⟨by simp, rfl⟩
  · rw [marksI_len] at hpos hcell
    go_enter Try.func41, Try.ntmps41
    go_wp2
    go_loop [1, 5] (fun kk i => ∃ k : Nat, k ≤ n ∧ i = .int .i64 k ∧ kk = .int .i64 (k0 + k)) (fun _ i => n - (intOf i).toNat)
    case atStart => exact ⟨0, Nat.zero_le _, rfl, by simp⟩
    case round =>
      obtain ⟨k, hk, rfl, rfl⟩ := hrel
      by_cases hlt : k < n
      · have hc := hcell k hlt
        rw [marksI_at k0 n k hlt] at hc
        clear hcell
        go_wp2
        go_round
        case rel => exact ⟨k + 1, by omega, by go_num, by go_num⟩
        case measure => simp [intOf]; omega
      · have HE : Hid (k = n) := by show k = n; omega
        go_wp2
        go_ret
        exact ⟨ret_int (by have := HE.out; omega), rfl⟩

theorem heldIntS_own (lo hi : Nat) (a : Option Addr) (cap : Nat) (k0 : Int) (n : Nat) (w : World) (ho : OwnI w lo hi a cap (marksI k0 n)) (h0 : 0 ≤ k0) (hl : k0 + n ≤ 4611686018427387904) :
    Calls Try.prog 41 #[.slice a n cap, .int .i64 k0] w fun e w' => e = .returned (.int .i64 (k0 + n)) ∧ w' = w :=
  heldIntS_any a cap k0 n w ho.reads h0 hl
end Go.Proofs.Ytoboickdkednkab

/- The walks of laws.eqObj, markObj, heldObj. -/
namespace Go.Proofs.Ytoboickdkednkab
open Go.RowKit

set_option maxHeartbeats 400000 in
set_option maxRecDepth 100000 in
theorem eqObj_same (o : ObjV) (aI : Option Addr) (cI : Nat) (aR : Option Addr) (cR : Nat) (bI : Option Addr) (dI : Nat) (bR : Option Addr) (dR : Nat) (w : World) (ha : ReadsO w aI cI aR cR o) (hb : ReadsO w bI dI bR dR o) (hlI : o.ints.length ≤ 1099511627776) (hlR : o.refs.length ≤ 1099511627776) :
    Calls Try.prog 45 #[.agg #[.int .i64 o.kind, .slice aI o.ints.length cI, .slice aR o.refs.length cR], .agg #[.int .i64 o.kind, .slice bI o.ints.length dI, .slice bR o.refs.length dR]] w fun e w' => e = .returned (.bool true) ∧ Below w.heap.size w w' := by
  obtain ⟨k, ints, refs⟩ := o
  obtain ⟨haI, haR, _, _⟩ := ha
  obtain ⟨hbI, hbR, _, _⟩ := hb
  simp only at *
  obtain ⟨W, hW, b0, b1, hbW, hsW⟩ := boxes2 w [.int .i64 k, .slice aI ints.length cI, .slice aR refs.length cR] [.int .i64 k, .slice bI ints.length dI, .slice bR refs.length dR] 24 24
  go_enter Try.func45, Try.ntmps45
  go_wp2_with fail
  rw [hW.out]
  refine (eqIntS_same aI bI cI dI ints W (haI.below hbW) (hbI.below hbW) hlI).mono ?_
  rintro e w1 ⟨rfl, n1, rfl⟩
  have c0 := (b0.drewN n1).cell 2 _ rfl
  have c1 := (b1.drewN n1).cell 2 _ rfl
  have hb1 : Below w.heap.size w (W.drewN n1) := below_drewN hbW n1
  go_wp2_with fail
  refine (eqIntS_same aR bR cR dR refs (W.drewN n1) (haR.below hb1) (hbR.below hb1) hlR).mono ?_
  rintro e w2 ⟨rfl, n2, rfl⟩
  go_wp2
  go_ret
  exact ⟨rfl, below_drewN hbW (n1 + n2)⟩

def markO (o : ObjV) (k0 : Int) : ObjV := ⟨o.kind, marksI k0 o.ints.length, marksI (k0 + o.ints.length) o.refs.length⟩

end Go.Proofs.Ytoboickdkednkab

/- Appending bytes that are read to a row that the call owns: one law for the walk. -/
namespace Go.Proofs.Ytoboickdkednkab
open Go.RowKit

/-- The slice at a, of capacity c, owns the bytes ys; its row lies from base on. -/
def OwnB (w : World) (base : Nat) (a : Option Addr) (c : Nat) (ys : List Int) : Prop :=
  (∀ z ∈ ys, 0 ≤ z ∧ z < 256) ∧ w.ownsRow base 5 1 (.slice a ys.length c) ys.length (ys.map (Value.int .u8))

theorem OwnB.reads {w : World} {base : Nat} {a : Option Addr} {c : Nat} {ys : List Int} (h : OwnB w base a c ys) : Reads w a ys := Reads.of_own h.1 h.2

theorem OwnB.nocap {w : World} {base : Nat} {a : Option Addr} {c : Nat} {ys : List Int} (h : OwnB w base a c ys) : a = none → c = 0 := by
  intro ha
  rcases h.2.2 with ⟨hv, _⟩ | ⟨g, cap, cur, hv, _⟩
  · simp only [Value.slice.injEq] at hv; exact hv.2.2
  · simp [ha] at hv

theorem OwnB.below {w w' : World} {base : Nat} {a : Option Addr} {c : Nat} {ys : List Int} (h : OwnB w base a c ys) (hb : Below w.heap.size w w') : OwnB w' base a c ys := by
  refine ⟨h.1, h.2.1, ?_⟩
  rcases h.2.2 with h0 | ⟨g, cap, cur, hv, hg, hgg, hr⟩
  · exact .inl h0
  · exact .inr ⟨g, cap, cur, hv, hg, by rw [hb.block g (Array.getElem?_eq_some_iff.1 hgg).1]; exact hgg, hr⟩

theorem OwnB.alloc {w : World} {base : Nat} {a : Option Addr} {c : Nat} {ys : List Int} (h : OwnB w base a c ys) (o : Obj) : OwnB (w.alloc o) base a c ys := ⟨h.1, h.2.alloc o⟩

theorem OwnB.base {w : World} {base base' : Nat} {a : Option Addr} {c : Nat} {ys : List Int} (h : OwnB w base a c ys) (hb : base' ≤ base) : OwnB w base' a c ys := by
  refine ⟨h.1, h.2.1, ?_⟩
  rcases h.2.2 with h0 | ⟨g, cap, cur, hv, hg, hr⟩
  · exact .inl h0
  · exact .inr ⟨g, cap, cur, hv, by omega, hr⟩

theorem Reads.alloc {w : World} {a : Option Addr} {zs : List Int} (h : Reads w a zs) (o : Obj) : Reads (w.alloc o) a zs := h.below ((Below.refl _ _).alloc (Nat.le_refl _) o)

end Go.Proofs.Ytoboickdkednkab

/- The walks of laws.markByteS and laws.heldByteS. -/
namespace Go.Proofs.Ytoboickdkednkab
open Go.RowKit

def marks (k0 : Int) (n : Nat) : List Int := (List.range n).map fun i : Nat => (k0 + i) % 256

def marked (k0 : Int) (xs : List Int) (k : Nat) : List Int := marks k0 k ++ xs.drop k
end Go.Proofs.Ytoboickdkednkab

/- The walk of laws.toByteS: a new row with the same bytes. -/
namespace Go.Proofs.Ytoboickdkednkab
open Go.RowKit

def part (zs : List Int) (k : Nat) : List Int := zs.take k ++ List.replicate (zs.length - k) 0

end Go.Proofs.Ytoboickdkednkab

/- The walk of laws.eqByteS. -/
namespace Go.Proofs.Ytoboickdkednkab
open Go.RowKit

end Go.Proofs.Ytoboickdkednkab

/- What is owned stays so while another row is written; marks by OwnB. -/
namespace Go.Proofs.Ytoboickdkednkab
open Go.RowKit

theorem OwnB.kept {w w' : World} {base : Nat} {a : Option Addr} {c : Nat} {ys : List Int} {row : Option Nat} (h : OwnB w base a c ys) (hg : w.grownBy w' row)
    (hne : ∀ k, (Value.slice a ys.length c).ownBlock = some k → row ≠ some k) : OwnB w' base a c ys := by
  refine ⟨h.1, h.2.kept hg ?_⟩
  cases hv : (Value.slice a ys.length c).ownBlock with
  | none => exact .inl rfl
  | some k => exact .inr fun e => hne k hv e.symm

theorem OwnB.drewN {w : World} {base : Nat} {a : Option Addr} {c : Nat} {ys : List Int} (h : OwnB w base a c ys) (n : Nat) : OwnB (w.drewN n) base a c ys := h.below (below_drewN (Below.refl _ _) n)

theorem OwnB.lt {w : World} {base : Nat} {a : Option Addr} {c : Nat} {ys : List Int} (h : OwnB w base a c ys) : ∀ k, (Value.slice a ys.length c).ownBlock = some k → base ≤ k ∧ k < w.heap.size := h.2.lt

end Go.Proofs.Ytoboickdkednkab
