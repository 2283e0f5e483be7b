/- Several texts in one, in their order. -/
import Derived.Test.YtekljhabjkmhpabDoorProg
import Derived.Test.YtekljhabjkmhpabDoorPart1
import Derived.Deep.QuietTactic
import Derived.BigQuiet
import Derived.Laws.AppendOwnNone
import Derived.WalkSmall
/- The walk of laws.eqIntS. -/
namespace Go.Proofs.YtekljhabjkmhpabDoor
open Go.RowKit

set_option maxHeartbeats 400000 in
/-- Two slices that read alike are alike. -/
theorem eqIntS_same (a b : Option Addr) (ca cb : Nat) (zs : List Int) (w : World) (ha : ReadsI w a zs) (hb : ReadsI w b zs) (hl : zs.length ≤ 1099511627776) :
    Calls Tryd.prog 15 #[.slice a zs.length ca, .slice b zs.length cb] w fun e w' => e = .returned (.bool true) ∧ ∃ n, w' = w.drewN n := by
  rcases ha.cases with rfl | ⟨b1, o1, rfl, hpos, hc1⟩
  · go_enter Tryd.func15, Tryd.ntmps15
    go_wp2
    refine wp_loop_rounds 1 ?_
    rw [rounds_succ]
    go_wp2
    go_ret
    exact ⟨rfl, 0, rfl⟩
  · rcases hb.cases with rfl | ⟨b2, o2, rfl, _, hc2⟩
    · simp at hpos
    · go_enter Tryd.func15, Tryd.ntmps15
      go_wp2
      go_loopw [5] (fun i wr => ∃ k : Nat, k ≤ zs.length ∧ i = .int .i64 k ∧ ∃ n, wr = w.drewN n) (fun i _ => zs.length - (intOf i).toNat)
      case atStart => exact ⟨0, Nat.zero_le _, rfl, 0, rfl⟩
      case round =>
        obtain ⟨k, hk, rfl, n, rfl⟩ := hrel
        by_cases hlt : k < zs.length
        · have h1 := hc1 k hlt
          have h2 := hc2 k hlt
          clear hc1 hc2
          generalize zs.getD k 0 = z at *
          go_wp2
          go_quiet (fail)
          go_wp2
          go_roundw
          case rel => exact ⟨k + 1, by omega, by go_num, _, rfl⟩
          case measure => simp [intOf]; omega
        · go_wp2
          go_ret
          exact ⟨rfl, n, rfl⟩
end Go.Proofs.YtekljhabjkmhpabDoor

/- The walks of laws.markIntS and laws.heldIntS. -/
namespace Go.Proofs.YtekljhabjkmhpabDoor
open Go.RowKit

def marksI (k0 : Int) (n : Nat) : List Int := (List.range n).map fun i : Nat => k0 + i

theorem marksI_len (k0 : Int) (n : Nat) : (marksI k0 n).length = n := by simp [marksI]
theorem marksI_at (k0 : Int) (n i : Nat) (h : i < n) : (marksI k0 n).getD i 0 = k0 + i := by
  simp [marksI, List.getD, h]
theorem marksI_succ (k0 : Int) (n : Nat) : marksI k0 (n + 1) = marksI k0 n ++ [k0 + n] := by
  simp [marksI, List.range_succ]

def markedI (k0 : Int) (xs : List Int) (k : Nat) : List Int := marksI k0 k ++ xs.drop k
theorem markedI_set (k0 : Int) (xs : List Int) (k : Nat) (h : k < xs.length) : (markedI k0 xs k).set k (k0 + k) = markedI k0 xs (k + 1) := by
  unfold markedI
  rw [List.set_append, if_neg (by rw [marksI_len]; omega), marksI_len, Nat.sub_self, marksI_succ, List.drop_eq_getElem_cons h, List.set_cons_zero]
  simp
theorem markedI_set_map (k0 : Int) (xs : List Int) (k : Nat) (h : k < xs.length) : ((markedI k0 xs k).map (Value.int .i64)).set k (.int .i64 (k0 + k)) = (markedI k0 xs (k + 1)).map (Value.int .i64) := by
  rw [← markedI_set k0 xs k h, List.map_set]
theorem markedI_all (k0 : Int) (xs : List Int) : markedI k0 xs xs.length = marksI k0 xs.length := by simp [markedI]

set_option maxHeartbeats 400000 in
theorem markIntS_any (base : Nat) (a : Option Addr) (cap : Nat) (k0 : Int) (xs : List Int) (w : World)
    (hown : w.ownsRow base 3 1 (.slice a xs.length cap) xs.length (xs.map (Value.int .i64))) (h0 : 0 ≤ k0) (hl : k0 + xs.length ≤ 4611686018427387904) :
    Calls Tryd.prog 16 #[.slice a xs.length cap, .int .i64 k0] w fun e w' => e = .returned (.int .i64 (k0 + xs.length)) ∧
      w'.ownsRow base 3 1 (.slice a xs.length cap) xs.length ((marksI k0 xs.length).map (Value.int .i64)) ∧ w.grownBy w' (Value.slice a xs.length cap).ownBlock := by
  have hlen := hown.1
  rcases hown.2 with ⟨hv, h00⟩ | ⟨g, cap', cur, hv, hg, hgg, hr⟩
  · simp only [Value.slice.injEq] at hv
    obtain ⟨rfl, h00', rfl⟩ := hv
    obtain rfl := List.length_eq_zero_iff.1 h00
    go_enter Tryd.func16, Tryd.ntmps16
    go_wp2
    refine wp_loop_rounds 1 ?_
    rw [rounds_succ]
    go_wp2
    go_ret
    exact ⟨by simp, World.ownsRow_nil _ _ _ _, World.grownBy.refl _ _⟩
  · simp only [Value.slice.injEq] at hv
    obtain ⟨rfl, _, rfl⟩ := hv
    clear hgg hr hlen
    have hM : w.ownsRow base 3 1 (.slice (some ⟨g, 0, none⟩) xs.length cap) xs.length ((markedI k0 xs 0).map (Value.int .i64)) := by simpa [markedI, marksI] using hown
    clear hown
    go_enter Tryd.func16, Tryd.ntmps16
    go_wp2
    go_loopw [1, 5] (fun kk i wr => ∃ k : Nat, k ≤ xs.length ∧ i = .int .i64 k ∧ kk = .int .i64 (k0 + k) ∧ wr.ownsRow base 3 1 (.slice (some ⟨g, 0, none⟩) xs.length cap) xs.length ((markedI k0 xs k).map (Value.int .i64)) ∧ w.grownBy wr (some g))
      (fun _ i _ => xs.length - (intOf i).toNat)
    case atStart => exact ⟨0, Nat.zero_le _, rfl, by simp, hM, World.grownBy.refl _ _⟩
    case round =>
      obtain ⟨k, hk, rfl, rfl, hown, hgr⟩ := hrel
      clear hM
      by_cases hlt : k < xs.length
      · have hfz := hown.frozenAt k
        obtain ⟨u, hct⟩ := own_cell hown k hlt
        have HS := hown.stored k (.int .i64 (k0 + k))
        rw [markedI_set_map k0 xs k hlt] at HS
        have HSS : Hid (_ ∧ _) := HS
        clear HS hown
        go_wp2
        go_roundw
        case rel => exact ⟨k + 1, by omega, by go_num, by go_num, HSS.out.1, grownBy_trans hgr HSS.out.2⟩
        case measure => simp [intOf]; omega
      · have HE : Hid (wr.ownsRow base 3 1 (.slice (some ⟨g, 0, none⟩) xs.length cap) xs.length ((marksI k0 xs.length).map (Value.int .i64)) ∧ k = xs.length) := by
          have e : k = xs.length := by omega
          rw [e, markedI_all] at hown
          exact ⟨hown, e⟩
        go_wp2
        go_ret
        exact ⟨ret_int (by have := HE.out.2; omega), HE.out.1, hgr⟩

set_option maxHeartbeats 400000 in
theorem heldIntS_any (a : Option Addr) (cap : Nat) (k0 : Int) (n : Nat) (w : World) (hr : ReadsI w a (marksI k0 n)) (h0 : 0 ≤ k0) (hl : k0 + n ≤ 4611686018427387904) :
    Calls Tryd.prog 17 #[.slice a n cap, .int .i64 k0] w fun e w' => e = .returned (.int .i64 (k0 + n)) ∧ w' = w := by
  rcases hr.cases with h | ⟨b, off, rfl, hpos, hcell⟩
  · have h' := congrArg List.length h
    rw [marksI_len] at h'
    simp at h'
    subst h'
    go_enter Tryd.func17, Tryd.ntmps17
    go_wp2
    refine wp_loop_rounds 1 ?_
    rw [rounds_succ]
    go_wp2
    go_ret
    exact ⟨by simp, rfl⟩
  · rw [marksI_len] at hpos hcell
    go_enter Tryd.func17, Tryd.ntmps17
    go_wp2
    go_loop [1, 5] (fun kk i => ∃ k : Nat, k ≤ n ∧ i = .int .i64 k ∧ kk = .int .i64 (k0 + k)) (fun _ i => n - (intOf i).toNat)
    case atStart => exact ⟨0, Nat.zero_le _, rfl, by simp⟩
    case round =>
      obtain ⟨k, hk, rfl, rfl⟩ := hrel
      by_cases hlt : k < n
      · have hc := hcell k hlt
        rw [marksI_at k0 n k hlt] at hc
        clear hcell
        go_wp2
        go_round
        case rel => exact ⟨k + 1, by omega, by go_num, by go_num⟩
        case measure => simp [intOf]; omega
      · have HE : Hid (k = n) := by show k = n; omega
        go_wp2
        go_ret
        exact ⟨ret_int (by have := HE.out; omega), rfl⟩

theorem markIntS_own (lo hi : Nat) (a : Option Addr) (cap : Nat) (k0 : Int) (xs : List Int) (w : World) (ho : OwnI w lo hi a cap xs) (h0 : 0 ≤ k0) (hl : k0 + xs.length ≤ 4611686018427387904) :
    Calls Tryd.prog 16 #[.slice a xs.length cap, .int .i64 k0] w fun e w' => e = .returned (.int .i64 (k0 + xs.length)) ∧ OwnI w' lo hi a cap (marksI k0 xs.length) ∧ Within lo hi w w' := by
  refine (markIntS_any lo a cap k0 xs w ho.1 h0 hl).mono ?_
  rintro e w' ⟨rfl, h1, h2⟩
  refine ⟨rfl, ⟨?_, Nat.le_trans ho.2.1 h2.size, ?_⟩, Within.of_grown h2 (fun k hk => ho.lt k hk)⟩
  · rw [marksI_len]; exact h1
  · rw [marksI_len]; exact ho.2.2

theorem heldIntS_own (lo hi : Nat) (a : Option Addr) (cap : Nat) (k0 : Int) (n : Nat) (w : World) (ho : OwnI w lo hi a cap (marksI k0 n)) (h0 : 0 ≤ k0) (hl : k0 + n ≤ 4611686018427387904) :
    Calls Tryd.prog 17 #[.slice a n cap, .int .i64 k0] w fun e w' => e = .returned (.int .i64 (k0 + n)) ∧ w' = w :=
  heldIntS_any a cap k0 n w ho.reads h0 hl
end Go.Proofs.YtekljhabjkmhpabDoor

/- The walks of laws.eqObj, markObj, heldObj. -/
namespace Go.Proofs.YtekljhabjkmhpabDoor
open Go.RowKit

def markO (o : ObjV) (k0 : Int) : ObjV := ⟨o.kind, marksI k0 o.ints.length, marksI (k0 + o.ints.length) o.refs.length⟩

end Go.Proofs.YtekljhabjkmhpabDoor

/- Appending bytes that are read to a row that the call owns: one law for the walk. -/
namespace Go.Proofs.YtekljhabjkmhpabDoor
open Go.RowKit

theorem Tryd.infoU8 : (Tryd.prog.info? 5).map (fun i => (i.zero, i.size, i.bytes)) = some (some (.int .u8 0), 1, 1) := by kernel_rfl

/-- The slice at a, of capacity c, owns the bytes ys; its row lies from base on. -/
def OwnB (w : World) (base : Nat) (a : Option Addr) (c : Nat) (ys : List Int) : Prop :=
  (∀ z ∈ ys, 0 ≤ z ∧ z < 256) ∧ w.ownsRow base 5 1 (.slice a ys.length c) ys.length (ys.map (Value.int .u8))

theorem OwnB.reads {w : World} {base : Nat} {a : Option Addr} {c : Nat} {ys : List Int} (h : OwnB w base a c ys) : Reads w a ys := Reads.of_own h.1 h.2

theorem OwnB.nocap {w : World} {base : Nat} {a : Option Addr} {c : Nat} {ys : List Int} (h : OwnB w base a c ys) : a = none → c = 0 := by
  intro ha
  rcases h.2.2 with ⟨hv, _⟩ | ⟨g, cap, cur, hv, _⟩
  · simp only [Value.slice.injEq] at hv; exact hv.2.2
  · simp [ha] at hv

theorem OwnB.below {w w' : World} {base : Nat} {a : Option Addr} {c : Nat} {ys : List Int} (h : OwnB w base a c ys) (hb : Below w.heap.size w w') : OwnB w' base a c ys := by
  refine ⟨h.1, h.2.1, ?_⟩
  rcases h.2.2 with h0 | ⟨g, cap, cur, hv, hg, hgg, hr⟩
  · exact .inl h0
  · exact .inr ⟨g, cap, cur, hv, hg, by rw [hb.block g (Array.getElem?_eq_some_iff.1 hgg).1]; exact hgg, hr⟩

theorem OwnB.alloc {w : World} {base : Nat} {a : Option Addr} {c : Nat} {ys : List Int} (h : OwnB w base a c ys) (o : Obj) : OwnB (w.alloc o) base a c ys := ⟨h.1, h.2.alloc o⟩

theorem OwnB.base {w : World} {base base' : Nat} {a : Option Addr} {c : Nat} {ys : List Int} (h : OwnB w base a c ys) (hb : base' ≤ base) : OwnB w base' a c ys := by
  refine ⟨h.1, h.2.1, ?_⟩
  rcases h.2.2 with h0 | ⟨g, cap, cur, hv, hg, hr⟩
  · exact .inl h0
  · exact .inr ⟨g, cap, cur, hv, by omega, hr⟩

theorem Reads.alloc {w : World} {a : Option Addr} {zs : List Int} (h : Reads w a zs) (o : Obj) : Reads (w.alloc o) a zs := h.below ((Below.refl _ _).alloc (Nat.le_refl _) o)

theorem reads_lit1 (w : World) (z : Int) (e : TypeId) (hz : 0 ≤ z ∧ z < 256) : Reads (w.alloc (.cells #[.int .u8 z] e)) (some ⟨w.heap.size, 0, none⟩) [z] := by
  refine ⟨by simpa using hz, fun _ => ⟨_, _, rfl, fun i hi => ?_⟩⟩
  simp at hi
  subst hi
  simp

theorem own_lit0 (w : World) : OwnB (w.alloc (.cells #[] 5)) w.heap.size (some ⟨w.heap.size, 0, none⟩) 0 [] :=
  ⟨by simp, World.ownsRow_lit w #[] 0 (Nat.le_refl _) (by simp [maxLen]) rfl⟩

end Go.Proofs.YtekljhabjkmhpabDoor

/- The walks of laws.markByteS and laws.heldByteS. -/
namespace Go.Proofs.YtekljhabjkmhpabDoor
open Go.RowKit

def marks (k0 : Int) (n : Nat) : List Int := (List.range n).map fun i : Nat => (k0 + i) % 256

theorem marks_len (k0 : Int) (n : Nat) : (marks k0 n).length = n := by simp [marks]
theorem marks_byte (k0 : Int) (n : Nat) : ∀ z ∈ marks k0 n, 0 ≤ z ∧ z < 256 := by
  intro z hz
  simp only [marks, List.mem_map] at hz
  obtain ⟨i, _, rfl⟩ := hz
  omega
theorem marks_at (k0 : Int) (n i : Nat) (h : i < n) : (marks k0 n).getD i 0 = (k0 + i) % 256 := by
  simp [marks, List.getD, h]
theorem marks_succ (k0 : Int) (n : Nat) : marks k0 (n + 1) = marks k0 n ++ [(k0 + n) % 256] := by
  simp [marks, List.range_succ]

def marked (k0 : Int) (xs : List Int) (k : Nat) : List Int := marks k0 k ++ xs.drop k
theorem marked_set (k0 : Int) (xs : List Int) (k : Nat) (h : k < xs.length) : (marked k0 xs k).set k ((k0 + k) % 256) = marked k0 xs (k + 1) := by
  unfold marked
  rw [List.set_append, if_neg (by rw [marks_len]; omega), marks_len, Nat.sub_self, marks_succ, List.drop_eq_getElem_cons h, List.set_cons_zero]
  simp
theorem marked_set_map (k0 : Int) (xs : List Int) (k : Nat) (h : k < xs.length) : ((marked k0 xs k).map (Value.int .u8)).set k (.int .u8 ((k0 + k) % 256)) = (marked k0 xs (k + 1)).map (Value.int .u8) := by
  rw [← marked_set k0 xs k h, List.map_set]
theorem marked_all (k0 : Int) (xs : List Int) : marked k0 xs xs.length = marks k0 xs.length := by simp [marked]

end Go.Proofs.YtekljhabjkmhpabDoor

/- The walk of laws.toByteS: a new row with the same bytes. -/
namespace Go.Proofs.YtekljhabjkmhpabDoor
open Go.RowKit

theorem Tryd.infoByte : (Tryd.prog.info? 5).map (fun i => (i.zero, i.size, i.bytes)) = some (some (.int .u8 0), 1, 1) := by kernel_rfl

def part (zs : List Int) (k : Nat) : List Int := zs.take k ++ List.replicate (zs.length - k) 0

theorem part_len (zs : List Int) (k : Nat) (h : k ≤ zs.length) : (part zs k).length = zs.length := by simp [part]; omega
theorem part_all (zs : List Int) : part zs zs.length = zs := by simp [part]
theorem part_none (zs : List Int) : part zs 0 = List.replicate zs.length 0 := by simp [part]
theorem part_set (zs : List Int) (k : Nat) (h : k < zs.length) : (part zs k).set k (zs.getD k 0) = part zs (k + 1) := by
  unfold part
  rw [List.set_append, if_neg (by simp; omega), List.take_succ_eq_append_getElem h]
  have e : zs.length - k = (zs.length - (k + 1)) + 1 := by omega
  have e2 : k - (List.take k zs).length = 0 := by simp; omega
  rw [e2, e, List.replicate_succ, List.set_cons_zero]
  simp only [List.getD, h, List.getElem?_eq_getElem, Option.getD_some, List.append_assoc, List.singleton_append]
theorem part_set_map (zs : List Int) (k : Nat) (h : k < zs.length) : ((part zs k).map (Value.int .u8)).set k (.int .u8 (zs.getD k 0)) = (part zs (k + 1)).map (Value.int .u8) := by
  rw [← part_set zs k h, List.map_set]

end Go.Proofs.YtekljhabjkmhpabDoor

/- The walk of laws.eqByteS. -/
namespace Go.Proofs.YtekljhabjkmhpabDoor
open Go.RowKit

end Go.Proofs.YtekljhabjkmhpabDoor

/- What is owned stays so while another row is written; marks by OwnB. -/
namespace Go.Proofs.YtekljhabjkmhpabDoor
open Go.RowKit

theorem OwnB.kept {w w' : World} {base : Nat} {a : Option Addr} {c : Nat} {ys : List Int} {row : Option Nat} (h : OwnB w base a c ys) (hg : w.grownBy w' row)
    (hne : ∀ k, (Value.slice a ys.length c).ownBlock = some k → row ≠ some k) : OwnB w' base a c ys := by
  refine ⟨h.1, h.2.kept hg ?_⟩
  cases hv : (Value.slice a ys.length c).ownBlock with
  | none => exact .inl rfl
  | some k => exact .inr fun e => hne k hv e.symm

theorem OwnB.drewN {w : World} {base : Nat} {a : Option Addr} {c : Nat} {ys : List Int} (h : OwnB w base a c ys) (n : Nat) : OwnB (w.drewN n) base a c ys := h.below (below_drewN (Below.refl _ _) n)

theorem OwnB.lt {w : World} {base : Nat} {a : Option Addr} {c : Nat} {ys : List Int} (h : OwnB w base a c ys) : ∀ k, (Value.slice a ys.length c).ownBlock = some k → base ≤ k ∧ k < w.heap.size := h.2.lt

end Go.Proofs.YtekljhabjkmhpabDoor

/- No longer than its capacity; a beginning of what is owned. -/
namespace Go.Proofs.YtekljhabjkmhpabDoor
open Go.RowKit

theorem OwnB.len_cap {w : World} {base : Nat} {a : Option Addr} {c : Nat} {ys : List Int} (h : OwnB w base a c ys) : ys.length ≤ c := by
  rcases h.2.2 with ⟨hv, h0⟩ | ⟨g, cap, cur, hv, _, _, hn, _⟩
  · omega
  · simp only [Value.slice.injEq] at hv
    omega

theorem own_prefix {w : World} {base : Nat} {a : Option Addr} {c : Nat} {ys : List Int} (h : OwnB w base a c ys) (k : Nat) : Reads w a (ys.take k) := by
  refine ⟨fun z hz => h.1 z (List.mem_of_mem_take hz), fun hne => ?_⟩
  have hy : ys ≠ [] := by intro e; simp [e] at hne
  obtain ⟨b, off, ha, hc⟩ := h.reads.2 hy
  refine ⟨b, off, ha, fun i hi => ?_⟩
  have hi2 : i < k ∧ i < ys.length := by simp at hi; omega
  rw [hc i hi2.2]
  have : (ys.take k).getD i 0 = ys.getD i 0 := by simp [List.getD, hi2.1]
  rw [this]

end Go.Proofs.YtekljhabjkmhpabDoor

/- Rows of bytes by spans: what is owned from lo up to hi; marks. -/
namespace Go.Proofs.YtekljhabjkmhpabDoor
open Go.RowKit

/-- The slice at a owns the bytes ys; its row lies from lo up to hi. -/
def OwnR (w : World) (lo hi : Nat) (a : Option Addr) (c : Nat) (ys : List Int) : Prop := OwnB w lo a c ys ∧ hi ≤ w.heap.size ∧ ∀ k, (Value.slice a ys.length c).ownBlock = some k → k < hi

theorem OwnB.spanned {w : World} {lo : Nat} {a : Option Addr} {c : Nat} {ys : List Int} (h : OwnB w lo a c ys) : OwnR w lo w.heap.size a c ys := ⟨h, Nat.le_refl _, fun k hk => (h.2.lt k hk).2⟩
theorem OwnR.lt {w : World} {lo hi : Nat} {a : Option Addr} {c : Nat} {ys : List Int} (h : OwnR w lo hi a c ys) : ∀ k, (Value.slice a ys.length c).ownBlock = some k → lo ≤ k ∧ k < hi := fun k hk => ⟨(h.1.2.lt k hk).1, h.2.2 k hk⟩
theorem OwnR.reads {w : World} {lo hi : Nat} {a : Option Addr} {c : Nat} {ys : List Int} (h : OwnR w lo hi a c ys) : Reads w a ys := h.1.reads
theorem OwnR.within {w w' : World} {lo hi l r : Nat} {a : Option Addr} {c : Nat} {ys : List Int} (h : OwnR w lo hi a c ys) (hw : Within l r w w') (hd : hi ≤ l ∨ r ≤ lo) : OwnR w' lo hi a c ys :=
  ⟨⟨h.1.1, ownsRow_block h.1.2 (fun k hk => hw.block k (by have := h.2.2 k hk; have := h.2.1; omega) (by have := h.lt k hk; omega))⟩, Nat.le_trans h.2.1 hw.size, h.2.2⟩
theorem OwnR.below {w w' : World} {lo hi : Nat} {a : Option Addr} {c : Nat} {ys : List Int} (h : OwnR w lo hi a c ys) (hb : Below w.heap.size w w') : OwnR w' lo hi a c ys :=
  h.within (Within.of_below (lo := w.heap.size) (hi := w.heap.size) hb) (.inl h.2.1)

end Go.Proofs.YtekljhabjkmhpabDoor
