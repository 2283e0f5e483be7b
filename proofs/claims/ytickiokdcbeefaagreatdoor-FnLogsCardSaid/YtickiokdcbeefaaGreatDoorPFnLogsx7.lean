/- Several texts in one, in their order. -/
import Derived.Test.YtickiokdcbeefaaGreatDoorPFnLogsx5
import Derived.Test.YtickiokdcbeefaaGreatDoorPFnLogsx6
import Derived.Test.YtickiokdcbeefaaGreatDoorPFnLogsx2
import Derived.Test.YtickiokdcbeefaaGreatDoorPFnLogsx4
import Derived.Deep.QuietTactic
import Derived.BigQuiet
import Derived.Test.YtickiokdcbeefaaGreatDoorPFnLogsx3
/- Plain mathematics of pages: when they are right, what their bytes are, that they come back of them, and of them alone. -/
namespace Go.Proofs.YtickiokdcbeefaaGreatDoor
open Go.RowKit

/-- The lists of these slots are not beyond any machine. -/
def Fit (ss : List SlotA) : Prop := ∀ s ∈ ss, s.v.o.ints.length ≤ 1099511627776 ∧ s.v.o.refs.length ≤ 1099511627776

def noS : SlotV := ⟨false, noO⟩
def slotB (s : SlotV) : Bool := if s.has then okB s.o else (decide (s.o.kind = 0) && (decide (s.o.ints.length = 0) && decide (s.o.refs.length = 0)))
def putSlotOf (s : SlotV) : List Int := if s.has then putOf (putObjOf s.o).length ++ putObjOf s.o else putOf 0
theorem slotB_has {s : SlotV} (h : s.has = true) : slotB s = okB s.o := by unfold slotB; rw [if_pos h]
theorem slotB_not {s : SlotV} (h : s.has = false) (hb : slotB s = true) : s = noS := by
  obtain ⟨b, k, i, r⟩ := s
  simp only at h
  subst h
  simp [slotB] at hb
  obtain ⟨rfl, rfl, rfl⟩ := hb
  rfl
theorem slotB_no : slotB noS = true := by rfl
theorem put_no : putObjOf noO = [] := by rfl
/-- One form for both: a slot that has nothing has no bytes, and that is told. -/
theorem putSlot_one {s : SlotV} (h : slotB s = true) : putSlotOf s = putOf (putObjOf s.o).length ++ putObjOf s.o := by
  unfold putSlotOf
  split
  · rfl
  · rename_i hh
    have e := slotB_not (by simpa using hh) h
    rw [e]
    simp [noS, put_no]

theorem putObj_len (o : ObjV) : (putObjOf o).length ≤ 1000 := by
  unfold putObjOf
  split
  · rename_i h
    obtain ⟨_, h5, h6, _, _⟩ := okB_bd h
    have h1 := putList_len o.ints
    have h2 := putList_len o.refs
    have h3 := (putOf_len o.kind).2
    rw [List.length_append, List.length_append]
    omega
  · simp
theorem putObj_byte (o : ObjV) : Bytes (putObjOf o) := by
  intro z hz
  unfold putObjOf at hz
  split at hz
  · simp only [putList, List.mem_append, List.mem_flatMap] at hz
    rcases hz with (h | h | ⟨x, _, h⟩) | h | ⟨x, _, h⟩ <;> exact putOf_byte _ z h
  · simp at hz
theorem putSlot_len (s : SlotV) : (putSlotOf s).length ≤ 1065 := by
  unfold putSlotOf
  have h1 := putObj_len s.o
  have h2 := (putOf_len ((putObjOf s.o).length : Int)).2
  have h3 := (putOf_len 0).2
  split
  · rw [List.length_append]; omega
  · omega
/-- What a slot is at a place, and the place behind it. -/
def slotAt (zs : List Int) (p : Nat) : Option (SlotV × Nat) := match getAt zs (p : Int) with
  | none => none
  | some (n, q) => if n < 0 ∨ (zs.length : Int) - (q : Int) < n then none else
    if n = 0 then some (noS, q) else
    if (getPair ((zs.drop q).take n.toNat)).2 then some (⟨true, (getPair ((zs.drop q).take n.toNat)).1⟩, q + n.toNat) else none
theorem getPair_true {zs : List Int} (h : (getPair zs).2 = true) : okB (getPair zs).1 = true ∧ putObjOf (getPair zs).1 = zs := by
  unfold getPair at h ⊢
  cases hg : getO zs with
  | none => rw [hg] at h; cases h
  | some o =>
    simp only
    refine ⟨getO_ok hg, ?_⟩
    unfold getO at hg
    split at hg
    · rename_i hh
      simp only [Option.some.injEq] at hg
      rw [← hg]; exact hh.2.2
    · cases hg
theorem getPair_put {o : ObjV} (h : okB o = true) : getPair (putObjOf o) = (o, true) := by unfold getPair; rw [getO_some h rfl]
theorem slotAt_canon (zs : List Int) (hb : Bytes zs) (p : Nat) (s : SlotV) (q : Nat) (h : slotAt zs p = some (s, q)) : slotB s = true ∧ zs.drop p = putSlotOf s ++ zs.drop q ∧ q ≤ zs.length := by
  unfold slotAt at h
  cases hg : getAt zs (p : Int) with
  | none => rw [hg] at h; cases h
  | some r =>
    obtain ⟨n, q1⟩ := r
    rw [hg] at h
    simp only at h
    obtain ⟨hd, h1, h2⟩ := getAt_canon zs hb p n q1 hg
    split at h
    · cases h
    · split at h
      · rename_i hn
        simp only [Option.some.injEq, Prod.mk.injEq] at h
        obtain ⟨rfl, rfl⟩ := h
        subst hn
        exact ⟨slotB_no, by simpa [putSlotOf, noS] using hd, h2⟩
      · split at h
        · rename_i hn hz hp
          simp only [Option.some.injEq, Prod.mk.injEq] at h
          obtain ⟨rfl, rfl⟩ := h
          obtain ⟨g1, g2⟩ := getPair_true hp
          obtain ⟨m, rfl⟩ : ∃ m : Nat, n = (m : Int) := ⟨n.toNat, by omega⟩
          rw [Int.toNat_natCast] at *
          have hl : ((zs.drop q1).take m).length = m := by rw [List.length_take, List.length_drop]; omega
          refine ⟨by rw [slotB_has rfl]; exact g1, ?_, by omega⟩
          rw [hd]
          unfold putSlotOf
          rw [if_pos rfl]
          simp only
          rw [g2, hl, List.append_assoc]
          congr 1
          rw [← List.drop_drop, List.take_append_drop]
        · cases h
theorem slotAt_back (pre rest : List Int) (s : SlotV) (h : slotB s = true) : slotAt (pre ++ putSlotOf s ++ rest) pre.length = some (s, (pre ++ putSlotOf s).length) := by
  have hl := putObj_len s.o
  rw [putSlot_one h]
  have e : pre ++ (putOf (putObjOf s.o).length ++ putObjOf s.o) ++ rest = pre ++ putOf (putObjOf s.o).length ++ (putObjOf s.o ++ rest) := by simp
  have hn := getAt_back pre (putObjOf s.o ++ rest) ((putObjOf s.o).length : Int) (by omega)
  rw [← e] at hn
  unfold slotAt
  rw [hn]
  simp only
  have hd : (pre ++ (putOf (putObjOf s.o).length ++ putObjOf s.o) ++ rest).drop (pre ++ putOf (putObjOf s.o).length).length = putObjOf s.o ++ rest := by rw [e, List.drop_left]
  rw [if_neg (by simp only [List.length_append]; omega), hd, Int.toNat_natCast, List.take_left]
  cases hh : s.has with
  | false =>
    have es := slotB_not hh h
    have ep : putObjOf s.o = [] := by rw [es]; rfl
    rw [if_pos (by rw [ep]; rfl), ep, es]
    simp
  | true =>
    rw [slotB_has hh] at h
    have hp : 1 ≤ (putObjOf s.o).length := by
      have := (putOf_len s.o.kind).1
      rw [put_ok h, List.length_append, List.length_append]; omega
    rw [if_neg (by omega), getPair_put h]
    simp only [if_true]
    obtain ⟨b, o⟩ := s
    simp only at hh ⊢
    subst hh
    simp [Nat.add_assoc]
/-- What the model reads of a slot: the slot, and the reader behind it. -/
def nextSlotOf (zs : List Int) (s : Int × Bool) : SlotV × (Int × Bool) :=
  if (nextOf zs s).2.2 = true ∨ (nextOf zs s).1 = 0 then (noS, (nextOf zs s).2) else
  if (nextOf zs s).1 < 0 ∨ (zs.length : Int) - (nextOf zs s).2.1 < (nextOf zs s).1 then (noS, ((nextOf zs s).2.1, true)) else
  (⟨true, (getPair ((zs.drop (nextOf zs s).2.1.toNat).take (nextOf zs s).1.toNat)).1⟩, ((nextOf zs s).2.1 + (nextOf zs s).1, !(getPair ((zs.drop (nextOf zs s).2.1.toNat).take (nextOf zs s).1.toNat)).2))
theorem nextSlot_back (pre rest : List Int) (s : SlotV) (h : slotB s = true) : nextSlotOf (pre ++ putSlotOf s ++ rest) ((pre.length : Int), false) = (s, (((pre ++ putSlotOf s).length : Int), false)) := by
  have hl := putObj_len s.o
  rw [putSlot_one h]
  have e : pre ++ (putOf (putObjOf s.o).length ++ putObjOf s.o) ++ rest = pre ++ putOf (putObjOf s.o).length ++ (putObjOf s.o ++ rest) := by simp
  have hn := next_back pre (putObjOf s.o ++ rest) ((putObjOf s.o).length : Int) (by omega)
  rw [← e] at hn
  have hd : (pre ++ (putOf (putObjOf s.o).length ++ putObjOf s.o) ++ rest).drop (pre ++ putOf (putObjOf s.o).length).length = putObjOf s.o ++ rest := by rw [e, List.drop_left]
  unfold nextSlotOf
  rw [hn]
  simp only [Int.toNat_natCast]
  rw [hd, List.take_left]
  cases hh : s.has with
  | false =>
    have es := slotB_not hh h
    have ep : putObjOf s.o = [] := by rw [es]; rfl
    rw [if_pos (by right; rw [ep]; rfl), ep, es]
    simp
  | true =>
    rw [slotB_has hh] at h
    have hp : 1 ≤ (putObjOf s.o).length := by
      have := (putOf_len s.o.kind).1
      rw [put_ok h, List.length_append, List.length_append]; omega
    rw [if_neg (fun hx => by rcases hx with hx | hx; exact absurd hx (by decide); omega), if_neg (by simp only [List.length_append]; omega), getPair_put h]
    obtain ⟨b, o⟩ := s
    simp only at hh ⊢
    subst hh
    simp
    omega
end Go.Proofs.YtickiokdcbeefaaGreatDoor

/- The walks of spec.l3SameSlot (with no slot) and spec.l4Zero. -/
namespace Go.Proofs.YtickiokdcbeefaaGreatDoor
open Go.RowKit

/-- Is it no slot at all? -/
def isNo (v : SlotV) : Bool := if v.has then false else sameO v.o ⟨0, [], []⟩
theorem isNo_has {v : SlotV} (h : v.has = true) : isNo v = false := by unfold isNo; rw [if_pos h]
theorem isNo_not {v : SlotV} (h : v.has = false) : isNo v = sameO v.o ⟨0, [], []⟩ := by unfold isNo; rw [if_neg (by rw [h]; decide)]

set_option maxHeartbeats 400000 in
set_option maxRecDepth 100000 in
theorem l3SameNone_any (s : SlotA) (w : World) (hr : s.reads w) (hl : Fit [s]) :
    Calls Tryz.prog 74 #[.agg s.cells.toArray, .agg #[.bool false, .int .i64 0, .slice none 0 0, .slice none 0 0]] w fun e w' => e = .returned (.bool (isNo s.v)) ∧ Below w.heap.size w w' := by
  obtain ⟨h1, h2⟩ := hl s (List.mem_singleton.2 rfl)
  obtain ⟨W, hW, b0, b1, hbW, hsW⟩ := boxes2 w s.cells [.bool false, .int .i64 0, .slice none 0 0, .slice none 0 0] 39 39
  have hr' : s.reads W := ReadsO.below hr hbW
  obtain ⟨⟨h, o⟩, aI, cI, aR, cR⟩ := s
  simp only [SlotA.cells, SlotA.reads] at *
  clear hsW
  cases h with
  | true =>
    have HE : Hid (isNo ⟨true, o⟩ = false) := isNo_has rfl
    generalize isNo ⟨true, o⟩ = R at *
    go_enter Tryz.func74, Tryz.ntmps74
    go_wp2
    go_ret
    exact ⟨ret_bool HE.out.symm, by rw [hW.out]; exact hbW⟩
  | false =>
    have C1 := specSameObj_any o ⟨0, [], []⟩ aI cI aR cR none 0 none 0 W hr' ⟨ReadsI.nil _ _, ReadsI.nil _ _, fun _ => rfl, fun _ => rfl⟩ h1 h2 (by simp) (by simp)
    simp only [List.length_nil] at C1
    have HE : Hid (isNo ⟨false, o⟩ = sameO o ⟨0, [], []⟩) := isNo_not rfl
    generalize isNo ⟨false, o⟩ = R at *
    generalize sameO o ⟨0, [], []⟩ = R2 at *
    go_enter Tryz.func74, Tryz.ntmps74
    go_wp2_with fail
    rw [hW.out]
    refine C1.mono ?_
    rintro e w1 ⟨rfl, hb1⟩
    go_wp2
    go_ret
    exact ⟨ret_bool HE.out.symm, hbW.trans (hb1.mono hbW.size)⟩

/-- What a kind does not name is zero. -/
def zeroB (r : RecV) (tx oid bf next txs : Bool) : Bool := (tx || (decide (r.tx = 0) && decide (r.prev = 0))) && (oid || (decide (r.oid = 0) && isNo r.af)) && (bf || isNo r.bf) && (next || decide (r.next = 0)) && (txs || decide (r.txs.length = 0))

set_option maxHeartbeats 2000000 in
set_option maxRecDepth 100000 in
theorem l4Zero_check (r : RecA) (w : World) (hr : r.reads w) (hl : r.short 1099511627776) :
    Calls Tryz.prog 52 #[.agg r.cells.toArray, .bool false, .bool false, .bool false, .bool false, .bool true] w fun e w' => e = .returned (.bool (zeroB r.v false false false false true)) ∧ Below w.heap.size w w' := by
  obtain ⟨W, hW, b0, b1, hbW, hsW⟩ := boxes2 w r.cells [.bool false, .int .i64 0, .slice none 0 0, .slice none 0 0] 42 39
  have CB : ∀ u, Below w.heap.size w u → _ := fun u hu => l3SameNone_any r.bf u (ReadsO.below hr.bf hu) (fun s hs => by obtain rfl := List.mem_singleton.1 hs; exact hl.bf)
  have CA : ∀ u, Below w.heap.size w u → _ := fun u hu => l3SameNone_any r.af u (ReadsO.below hr.af hu) (fun s hs => by obtain rfl := List.mem_singleton.1 hs; exact hl.af)
  have HZ : Hid (zeroB r.v false false false false true = ((false || (decide (r.tx = 0) && decide (r.prev = 0))) && (false || (decide (r.oid = 0) && isNo r.af.v)) && (false || isNo r.bf.v) && (false || decide (r.next = 0)) && (true || decide (r.txs.length = 0)))) := rfl
  generalize zeroB r.v false false false false true = R at *
  simp only [RecA.cells] at *
  simp only [SlotA.cells] at CA CB
  clear hsW hr hl
  by_cases h_tx : r.tx = 0
  case neg =>
    have HR : Hid (R = false) := by rw [Hid, HZ.out]; simp [h_tx]
    have h_txb : (r.tx == 0) = false := by simp; exact h_tx
    clear HZ h_tx
    go_enter Tryz.func52, Tryz.ntmps52
    go_wp2
    rw [hW.out]
    go_ret
    exact ⟨ret_bool HR.out.symm, hbW⟩
  case pos =>
  by_cases h_prev : r.prev = 0
  case neg =>
    have HR : Hid (R = false) := by rw [Hid, HZ.out]; simp [h_tx, h_prev]
    have h_txb : (r.tx == 0) = true := by simp; exact h_tx
    have h_prevb : (r.prev == 0) = false := by simp; exact h_prev
    clear HZ h_tx h_prev
    go_enter Tryz.func52, Tryz.ntmps52
    go_wp2
    rw [hW.out]
    go_ret
    exact ⟨ret_bool HR.out.symm, hbW⟩
  case pos =>
  by_cases h_oid : r.oid = 0
  case neg =>
    have HR : Hid (R = false) := by rw [Hid, HZ.out]; simp [h_tx, h_prev, h_oid]
    have h_txb : (r.tx == 0) = true := by simp; exact h_tx
    have h_prevb : (r.prev == 0) = true := by simp; exact h_prev
    have h_oidb : (r.oid == 0) = false := by simp; exact h_oid
    clear HZ h_tx h_prev h_oid
    go_enter Tryz.func52, Tryz.ntmps52
    go_wp2
    rw [hW.out]
    go_ret
    exact ⟨ret_bool HR.out.symm, hbW⟩
  case pos =>
  by_cases h_af : isNo r.af.v = true
  case neg =>
    have HR : Hid (R = false) := by rw [Hid, HZ.out]; simp [h_tx, h_prev, h_oid, h_af]
    have h_txb : (r.tx == 0) = true := by simp; exact h_tx
    have h_prevb : (r.prev == 0) = true := by simp; exact h_prev
    have h_oidb : (r.oid == 0) = true := by simp; exact h_oid
    have h_afb : isNo r.af.v = false := by simpa using h_af
    clear HZ h_tx h_prev h_oid
    go_enter Tryz.func52, Tryz.ntmps52
    go_wp2_with fail
    rw [hW.out]
    clear hW
    refine (CA W hbW).mono ?_
    rintro e w_af ⟨rfl, hb_af⟩
    rw [h_afb]
    have B_af : Below w.heap.size w w_af := (hbW).trans (hb_af.mono (hbW).size)
    have b0_af := b0.below hb_af (b0).lt
    have b1_af := b1.below hb_af (b1).lt
    have x_af5 := b0_af.cell 5 _ rfl
    have x_af6 := b0_af.cell 6 _ rfl
    have x_af7 := b0_af.cell 7 _ rfl
    have x_af8 := b0_af.cell 8 _ rfl
    have x_af13 := b0_af.cell 13 _ rfl
    have x_af14 := b0_af.cell 14 _ rfl
    have y_af0 := b1_af.cell 0 _ rfl
    have y_af1 := b1_af.cell 1 _ rfl
    have y_af2 := b1_af.cell 2 _ rfl
    have y_af3 := b1_af.cell 3 _ rfl
    go_wp2
    go_ret
    exact ⟨ret_bool HR.out.symm, B_af⟩
  case pos =>
  by_cases h_bf : isNo r.bf.v = true
  case neg =>
    have HR : Hid (R = false) := by rw [Hid, HZ.out]; simp [h_tx, h_prev, h_oid, h_af, h_bf]
    have h_txb : (r.tx == 0) = true := by simp; exact h_tx
    have h_prevb : (r.prev == 0) = true := by simp; exact h_prev
    have h_oidb : (r.oid == 0) = true := by simp; exact h_oid
    have h_bfb : isNo r.bf.v = false := by simpa using h_bf
    clear HZ h_tx h_prev h_oid
    go_enter Tryz.func52, Tryz.ntmps52
    go_wp2_with fail
    rw [hW.out]
    clear hW
    refine (CA W hbW).mono ?_
    rintro e w_af ⟨rfl, hb_af⟩
    rw [h_af]
    have B_af : Below w.heap.size w w_af := (hbW).trans (hb_af.mono (hbW).size)
    have b0_af := b0.below hb_af (b0).lt
    have b1_af := b1.below hb_af (b1).lt
    have x_af5 := b0_af.cell 5 _ rfl
    have x_af6 := b0_af.cell 6 _ rfl
    have x_af7 := b0_af.cell 7 _ rfl
    have x_af8 := b0_af.cell 8 _ rfl
    have x_af13 := b0_af.cell 13 _ rfl
    have x_af14 := b0_af.cell 14 _ rfl
    have y_af0 := b1_af.cell 0 _ rfl
    have y_af1 := b1_af.cell 1 _ rfl
    have y_af2 := b1_af.cell 2 _ rfl
    have y_af3 := b1_af.cell 3 _ rfl
    go_wp2_with fail
    refine (CB w_af B_af).mono ?_
    rintro e w_bf ⟨rfl, hb_bf⟩
    rw [h_bfb]
    have B_bf : Below w.heap.size w w_bf := (B_af).trans (hb_bf.mono (B_af).size)
    have b0_bf := b0_af.below hb_bf (b0_af).lt
    have b1_bf := b1_af.below hb_bf (b1_af).lt
    have x_bf13 := b0_bf.cell 13 _ rfl
    have x_bf14 := b0_bf.cell 14 _ rfl
    go_wp2
    go_ret
    exact ⟨ret_bool HR.out.symm, B_bf⟩
  case pos =>
  by_cases h_next : r.next = 0
  case neg =>
    have HR : Hid (R = false) := by rw [Hid, HZ.out]; simp [h_tx, h_prev, h_oid, h_af, h_bf, h_next]
    have h_txb : (r.tx == 0) = true := by simp; exact h_tx
    have h_prevb : (r.prev == 0) = true := by simp; exact h_prev
    have h_oidb : (r.oid == 0) = true := by simp; exact h_oid
    have h_nextb : (r.next == 0) = false := by simp; exact h_next
    clear HZ h_tx h_prev h_oid h_next
    go_enter Tryz.func52, Tryz.ntmps52
    go_wp2_with fail
    rw [hW.out]
    clear hW
    refine (CA W hbW).mono ?_
    rintro e w_af ⟨rfl, hb_af⟩
    rw [h_af]
    have B_af : Below w.heap.size w w_af := (hbW).trans (hb_af.mono (hbW).size)
    have b0_af := b0.below hb_af (b0).lt
    have b1_af := b1.below hb_af (b1).lt
    have x_af5 := b0_af.cell 5 _ rfl
    have x_af6 := b0_af.cell 6 _ rfl
    have x_af7 := b0_af.cell 7 _ rfl
    have x_af8 := b0_af.cell 8 _ rfl
    have x_af13 := b0_af.cell 13 _ rfl
    have x_af14 := b0_af.cell 14 _ rfl
    have y_af0 := b1_af.cell 0 _ rfl
    have y_af1 := b1_af.cell 1 _ rfl
    have y_af2 := b1_af.cell 2 _ rfl
    have y_af3 := b1_af.cell 3 _ rfl
    go_wp2_with fail
    refine (CB w_af B_af).mono ?_
    rintro e w_bf ⟨rfl, hb_bf⟩
    rw [h_bf]
    have B_bf : Below w.heap.size w w_bf := (B_af).trans (hb_bf.mono (B_af).size)
    have b0_bf := b0_af.below hb_bf (b0_af).lt
    have b1_bf := b1_af.below hb_bf (b1_af).lt
    have x_bf13 := b0_bf.cell 13 _ rfl
    have x_bf14 := b0_bf.cell 14 _ rfl
    go_wp2
    go_ret
    exact ⟨ret_bool HR.out.symm, B_bf⟩
  case pos =>
  have HR : Hid (R = true) := by rw [Hid, HZ.out]; simp [h_tx, h_prev, h_oid, h_af, h_bf, h_next]
  have h_txb : (r.tx == 0) = true := by simp; exact h_tx
  have h_prevb : (r.prev == 0) = true := by simp; exact h_prev
  have h_oidb : (r.oid == 0) = true := by simp; exact h_oid
  have h_nextb : (r.next == 0) = true := by simp; exact h_next
  clear HZ h_tx h_prev h_oid h_next
  go_enter Tryz.func52, Tryz.ntmps52
  go_wp2_with fail
  rw [hW.out]
  clear hW
  refine (CA W hbW).mono ?_
  rintro e w_af ⟨rfl, hb_af⟩
  rw [h_af]
  have B_af : Below w.heap.size w w_af := (hbW).trans (hb_af.mono (hbW).size)
  have b0_af := b0.below hb_af (b0).lt
  have b1_af := b1.below hb_af (b1).lt
  have x_af5 := b0_af.cell 5 _ rfl
  have x_af6 := b0_af.cell 6 _ rfl
  have x_af7 := b0_af.cell 7 _ rfl
  have x_af8 := b0_af.cell 8 _ rfl
  have x_af13 := b0_af.cell 13 _ rfl
  have x_af14 := b0_af.cell 14 _ rfl
  have y_af0 := b1_af.cell 0 _ rfl
  have y_af1 := b1_af.cell 1 _ rfl
  have y_af2 := b1_af.cell 2 _ rfl
  have y_af3 := b1_af.cell 3 _ rfl
  go_wp2_with fail
  refine (CB w_af B_af).mono ?_
  rintro e w_bf ⟨rfl, hb_bf⟩
  rw [h_bf]
  have B_bf : Below w.heap.size w w_bf := (B_af).trans (hb_bf.mono (B_af).size)
  have b0_bf := b0_af.below hb_bf (b0_af).lt
  have b1_bf := b1_af.below hb_bf (b1_af).lt
  have x_bf13 := b0_bf.cell 13 _ rfl
  have x_bf14 := b0_bf.cell 14 _ rfl
  go_wp2
  go_ret
  exact ⟨ret_bool HR.out.symm, B_bf⟩

set_option maxHeartbeats 2000000 in
set_option maxRecDepth 100000 in
theorem l4Zero_set (r : RecA) (w : World) (hr : r.reads w) (hl : r.short 1099511627776) :
    Calls Tryz.prog 52 #[.agg r.cells.toArray, .bool true, .bool true, .bool true, .bool false, .bool false] w fun e w' => e = .returned (.bool (zeroB r.v true true true false false)) ∧ Below w.heap.size w w' := by
  obtain ⟨W, hW, b0, b1, hbW, hsW⟩ := boxes2 w r.cells [.bool false, .int .i64 0, .slice none 0 0, .slice none 0 0] 42 39
  have CB : ∀ u, Below w.heap.size w u → _ := fun u hu => l3SameNone_any r.bf u (ReadsO.below hr.bf hu) (fun s hs => by obtain rfl := List.mem_singleton.1 hs; exact hl.bf)
  have CA : ∀ u, Below w.heap.size w u → _ := fun u hu => l3SameNone_any r.af u (ReadsO.below hr.af hu) (fun s hs => by obtain rfl := List.mem_singleton.1 hs; exact hl.af)
  have HZ : Hid (zeroB r.v true true true false false = ((true || (decide (r.tx = 0) && decide (r.prev = 0))) && (true || (decide (r.oid = 0) && isNo r.af.v)) && (true || isNo r.bf.v) && (false || decide (r.next = 0)) && (false || decide (r.txs.length = 0)))) := rfl
  generalize zeroB r.v true true true false false = R at *
  simp only [RecA.cells] at *
  simp only [SlotA.cells] at CA CB
  clear hsW hr hl
  by_cases h_next : r.next = 0
  case neg =>
    have HR : Hid (R = false) := by rw [Hid, HZ.out]; simp [h_next]
    have h_nextb : (r.next == 0) = false := by simp; exact h_next
    clear HZ h_next
    go_enter Tryz.func52, Tryz.ntmps52
    go_wp2
    rw [hW.out]
    go_ret
    exact ⟨ret_bool HR.out.symm, hbW⟩
  case pos =>
  by_cases h_txs : r.txs.length = 0
  case neg =>
    have HR : Hid (R = false) := by rw [Hid, HZ.out]; simp [h_next, h_txs]
    have h_nextb : (r.next == 0) = true := by simp; exact h_next
    have h_txsb : ((r.txs.length : Int) == 0) = false := by simp; exact fun e => h_txs (by rw [e]; rfl)
    clear HZ h_next h_txs
    go_enter Tryz.func52, Tryz.ntmps52
    go_wp2
    rw [hW.out]
    go_ret
    exact ⟨ret_bool HR.out.symm, hbW⟩
  case pos =>
  have HR : Hid (R = true) := by rw [Hid, HZ.out]; simp [h_next, h_txs]
  have h_nextb : (r.next == 0) = true := by simp; exact h_next
  have h_txsb : ((r.txs.length : Int) == 0) = true := by simp; exact List.length_eq_zero_iff.1 h_txs
  clear HZ h_next h_txs
  go_enter Tryz.func52, Tryz.ntmps52
  go_wp2
  rw [hW.out]
  go_ret
  exact ⟨ret_bool HR.out.symm, hbW⟩

set_option maxHeartbeats 2000000 in
set_option maxRecDepth 100000 in
theorem l4Zero_back (r : RecA) (w : World) (hr : r.reads w) (hl : r.short 1099511627776) :
    Calls Tryz.prog 52 #[.agg r.cells.toArray, .bool true, .bool true, .bool false, .bool true, .bool false] w fun e w' => e = .returned (.bool (zeroB r.v true true false true false)) ∧ Below w.heap.size w w' := by
  obtain ⟨W, hW, b0, b1, hbW, hsW⟩ := boxes2 w r.cells [.bool false, .int .i64 0, .slice none 0 0, .slice none 0 0] 42 39
  have CB : ∀ u, Below w.heap.size w u → _ := fun u hu => l3SameNone_any r.bf u (ReadsO.below hr.bf hu) (fun s hs => by obtain rfl := List.mem_singleton.1 hs; exact hl.bf)
  have CA : ∀ u, Below w.heap.size w u → _ := fun u hu => l3SameNone_any r.af u (ReadsO.below hr.af hu) (fun s hs => by obtain rfl := List.mem_singleton.1 hs; exact hl.af)
  have HZ : Hid (zeroB r.v true true false true false = ((true || (decide (r.tx = 0) && decide (r.prev = 0))) && (true || (decide (r.oid = 0) && isNo r.af.v)) && (false || isNo r.bf.v) && (true || decide (r.next = 0)) && (false || decide (r.txs.length = 0)))) := rfl
  generalize zeroB r.v true true false true false = R at *
  simp only [RecA.cells] at *
  simp only [SlotA.cells] at CA CB
  clear hsW hr hl
  by_cases h_bf : isNo r.bf.v = true
  case neg =>
    have HR : Hid (R = false) := by rw [Hid, HZ.out]; simp [h_bf]
    have h_bfb : isNo r.bf.v = false := by simpa using h_bf
    clear HZ 
    go_enter Tryz.func52, Tryz.ntmps52
    go_wp2_with fail
    rw [hW.out]
    clear hW
    refine (CB W hbW).mono ?_
    rintro e w_bf ⟨rfl, hb_bf⟩
    rw [h_bfb]
    have B_bf : Below w.heap.size w w_bf := (hbW).trans (hb_bf.mono (hbW).size)
    have b0_bf := b0.below hb_bf (b0).lt
    have b1_bf := b1.below hb_bf (b1).lt
    have x_bf13 := b0_bf.cell 13 _ rfl
    have x_bf14 := b0_bf.cell 14 _ rfl
    go_wp2
    go_ret
    exact ⟨ret_bool HR.out.symm, B_bf⟩
  case pos =>
  by_cases h_txs : r.txs.length = 0
  case neg =>
    have HR : Hid (R = false) := by rw [Hid, HZ.out]; simp [h_bf, h_txs]
    have h_txsb : ((r.txs.length : Int) == 0) = false := by simp; exact fun e => h_txs (by rw [e]; rfl)
    clear HZ h_txs
    go_enter Tryz.func52, Tryz.ntmps52
    go_wp2_with fail
    rw [hW.out]
    clear hW
    refine (CB W hbW).mono ?_
    rintro e w_bf ⟨rfl, hb_bf⟩
    rw [h_bf]
    have B_bf : Below w.heap.size w w_bf := (hbW).trans (hb_bf.mono (hbW).size)
    have b0_bf := b0.below hb_bf (b0).lt
    have b1_bf := b1.below hb_bf (b1).lt
    have x_bf13 := b0_bf.cell 13 _ rfl
    have x_bf14 := b0_bf.cell 14 _ rfl
    go_wp2
    go_ret
    exact ⟨ret_bool HR.out.symm, B_bf⟩
  case pos =>
  have HR : Hid (R = true) := by rw [Hid, HZ.out]; simp [h_bf, h_txs]
  have h_txsb : ((r.txs.length : Int) == 0) = true := by simp; exact List.length_eq_zero_iff.1 h_txs
  clear HZ h_txs
  go_enter Tryz.func52, Tryz.ntmps52
  go_wp2_with fail
  rw [hW.out]
  clear hW
  refine (CB W hbW).mono ?_
  rintro e w_bf ⟨rfl, hb_bf⟩
  rw [h_bf]
  have B_bf : Below w.heap.size w w_bf := (hbW).trans (hb_bf.mono (hbW).size)
  have b0_bf := b0.below hb_bf (b0).lt
  have b1_bf := b1.below hb_bf (b1).lt
  have x_bf13 := b0_bf.cell 13 _ rfl
  have x_bf14 := b0_bf.cell 14 _ rfl
  go_wp2
  go_ret
  exact ⟨ret_bool HR.out.symm, B_bf⟩

set_option maxHeartbeats 2000000 in
set_option maxRecDepth 100000 in
theorem l4Zero_end (r : RecA) (w : World) (hr : r.reads w) (hl : r.short 1099511627776) :
    Calls Tryz.prog 52 #[.agg r.cells.toArray, .bool true, .bool false, .bool false, .bool false, .bool false] w fun e w' => e = .returned (.bool (zeroB r.v true false false false false)) ∧ Below w.heap.size w w' := by
  obtain ⟨W, hW, b0, b1, hbW, hsW⟩ := boxes2 w r.cells [.bool false, .int .i64 0, .slice none 0 0, .slice none 0 0] 42 39
  have CB : ∀ u, Below w.heap.size w u → _ := fun u hu => l3SameNone_any r.bf u (ReadsO.below hr.bf hu) (fun s hs => by obtain rfl := List.mem_singleton.1 hs; exact hl.bf)
  have CA : ∀ u, Below w.heap.size w u → _ := fun u hu => l3SameNone_any r.af u (ReadsO.below hr.af hu) (fun s hs => by obtain rfl := List.mem_singleton.1 hs; exact hl.af)
  have HZ : Hid (zeroB r.v true false false false false = ((true || (decide (r.tx = 0) && decide (r.prev = 0))) && (false || (decide (r.oid = 0) && isNo r.af.v)) && (false || isNo r.bf.v) && (false || decide (r.next = 0)) && (false || decide (r.txs.length = 0)))) := rfl
  generalize zeroB r.v true false false false false = R at *
  simp only [RecA.cells] at *
  simp only [SlotA.cells] at CA CB
  clear hsW hr hl
  by_cases h_oid : r.oid = 0
  case neg =>
    have HR : Hid (R = false) := by rw [Hid, HZ.out]; simp [h_oid]
    have h_oidb : (r.oid == 0) = false := by simp; exact h_oid
    clear HZ h_oid
    go_enter Tryz.func52, Tryz.ntmps52
    go_wp2
    rw [hW.out]
    go_ret
    exact ⟨ret_bool HR.out.symm, hbW⟩
  case pos =>
  by_cases h_af : isNo r.af.v = true
  case neg =>
    have HR : Hid (R = false) := by rw [Hid, HZ.out]; simp [h_oid, h_af]
    have h_oidb : (r.oid == 0) = true := by simp; exact h_oid
    have h_afb : isNo r.af.v = false := by simpa using h_af
    clear HZ h_oid
    go_enter Tryz.func52, Tryz.ntmps52
    go_wp2_with fail
    rw [hW.out]
    clear hW
    refine (CA W hbW).mono ?_
    rintro e w_af ⟨rfl, hb_af⟩
    rw [h_afb]
    have B_af : Below w.heap.size w w_af := (hbW).trans (hb_af.mono (hbW).size)
    have b0_af := b0.below hb_af (b0).lt
    have b1_af := b1.below hb_af (b1).lt
    have x_af5 := b0_af.cell 5 _ rfl
    have x_af6 := b0_af.cell 6 _ rfl
    have x_af7 := b0_af.cell 7 _ rfl
    have x_af8 := b0_af.cell 8 _ rfl
    have x_af13 := b0_af.cell 13 _ rfl
    have x_af14 := b0_af.cell 14 _ rfl
    have y_af0 := b1_af.cell 0 _ rfl
    have y_af1 := b1_af.cell 1 _ rfl
    have y_af2 := b1_af.cell 2 _ rfl
    have y_af3 := b1_af.cell 3 _ rfl
    go_wp2
    go_ret
    exact ⟨ret_bool HR.out.symm, B_af⟩
  case pos =>
  by_cases h_bf : isNo r.bf.v = true
  case neg =>
    have HR : Hid (R = false) := by rw [Hid, HZ.out]; simp [h_oid, h_af, h_bf]
    have h_oidb : (r.oid == 0) = true := by simp; exact h_oid
    have h_bfb : isNo r.bf.v = false := by simpa using h_bf
    clear HZ h_oid
    go_enter Tryz.func52, Tryz.ntmps52
    go_wp2_with fail
    rw [hW.out]
    clear hW
    refine (CA W hbW).mono ?_
    rintro e w_af ⟨rfl, hb_af⟩
    rw [h_af]
    have B_af : Below w.heap.size w w_af := (hbW).trans (hb_af.mono (hbW).size)
    have b0_af := b0.below hb_af (b0).lt
    have b1_af := b1.below hb_af (b1).lt
    have x_af5 := b0_af.cell 5 _ rfl
    have x_af6 := b0_af.cell 6 _ rfl
    have x_af7 := b0_af.cell 7 _ rfl
    have x_af8 := b0_af.cell 8 _ rfl
    have x_af13 := b0_af.cell 13 _ rfl
    have x_af14 := b0_af.cell 14 _ rfl
    have y_af0 := b1_af.cell 0 _ rfl
    have y_af1 := b1_af.cell 1 _ rfl
    have y_af2 := b1_af.cell 2 _ rfl
    have y_af3 := b1_af.cell 3 _ rfl
    go_wp2_with fail
    refine (CB w_af B_af).mono ?_
    rintro e w_bf ⟨rfl, hb_bf⟩
    rw [h_bfb]
    have B_bf : Below w.heap.size w w_bf := (B_af).trans (hb_bf.mono (B_af).size)
    have b0_bf := b0_af.below hb_bf (b0_af).lt
    have b1_bf := b1_af.below hb_bf (b1_af).lt
    have x_bf13 := b0_bf.cell 13 _ rfl
    have x_bf14 := b0_bf.cell 14 _ rfl
    go_wp2
    go_ret
    exact ⟨ret_bool HR.out.symm, B_bf⟩
  case pos =>
  by_cases h_next : r.next = 0
  case neg =>
    have HR : Hid (R = false) := by rw [Hid, HZ.out]; simp [h_oid, h_af, h_bf, h_next]
    have h_oidb : (r.oid == 0) = true := by simp; exact h_oid
    have h_nextb : (r.next == 0) = false := by simp; exact h_next
    clear HZ h_oid h_next
    go_enter Tryz.func52, Tryz.ntmps52
    go_wp2_with fail
    rw [hW.out]
    clear hW
    refine (CA W hbW).mono ?_
    rintro e w_af ⟨rfl, hb_af⟩
    rw [h_af]
    have B_af : Below w.heap.size w w_af := (hbW).trans (hb_af.mono (hbW).size)
    have b0_af := b0.below hb_af (b0).lt
    have b1_af := b1.below hb_af (b1).lt
    have x_af5 := b0_af.cell 5 _ rfl
    have x_af6 := b0_af.cell 6 _ rfl
    have x_af7 := b0_af.cell 7 _ rfl
    have x_af8 := b0_af.cell 8 _ rfl
    have x_af13 := b0_af.cell 13 _ rfl
    have x_af14 := b0_af.cell 14 _ rfl
    have y_af0 := b1_af.cell 0 _ rfl
    have y_af1 := b1_af.cell 1 _ rfl
    have y_af2 := b1_af.cell 2 _ rfl
    have y_af3 := b1_af.cell 3 _ rfl
    go_wp2_with fail
    refine (CB w_af B_af).mono ?_
    rintro e w_bf ⟨rfl, hb_bf⟩
    rw [h_bf]
    have B_bf : Below w.heap.size w w_bf := (B_af).trans (hb_bf.mono (B_af).size)
    have b0_bf := b0_af.below hb_bf (b0_af).lt
    have b1_bf := b1_af.below hb_bf (b1_af).lt
    have x_bf13 := b0_bf.cell 13 _ rfl
    have x_bf14 := b0_bf.cell 14 _ rfl
    go_wp2
    go_ret
    exact ⟨ret_bool HR.out.symm, B_bf⟩
  case pos =>
  by_cases h_txs : r.txs.length = 0
  case neg =>
    have HR : Hid (R = false) := by rw [Hid, HZ.out]; simp [h_oid, h_af, h_bf, h_next, h_txs]
    have h_oidb : (r.oid == 0) = true := by simp; exact h_oid
    have h_nextb : (r.next == 0) = true := by simp; exact h_next
    have h_txsb : ((r.txs.length : Int) == 0) = false := by simp; exact fun e => h_txs (by rw [e]; rfl)
    clear HZ h_oid h_next h_txs
    go_enter Tryz.func52, Tryz.ntmps52
    go_wp2_with fail
    rw [hW.out]
    clear hW
    refine (CA W hbW).mono ?_
    rintro e w_af ⟨rfl, hb_af⟩
    rw [h_af]
    have B_af : Below w.heap.size w w_af := (hbW).trans (hb_af.mono (hbW).size)
    have b0_af := b0.below hb_af (b0).lt
    have b1_af := b1.below hb_af (b1).lt
    have x_af5 := b0_af.cell 5 _ rfl
    have x_af6 := b0_af.cell 6 _ rfl
    have x_af7 := b0_af.cell 7 _ rfl
    have x_af8 := b0_af.cell 8 _ rfl
    have x_af13 := b0_af.cell 13 _ rfl
    have x_af14 := b0_af.cell 14 _ rfl
    have y_af0 := b1_af.cell 0 _ rfl
    have y_af1 := b1_af.cell 1 _ rfl
    have y_af2 := b1_af.cell 2 _ rfl
    have y_af3 := b1_af.cell 3 _ rfl
    go_wp2_with fail
    refine (CB w_af B_af).mono ?_
    rintro e w_bf ⟨rfl, hb_bf⟩
    rw [h_bf]
    have B_bf : Below w.heap.size w w_bf := (B_af).trans (hb_bf.mono (B_af).size)
    have b0_bf := b0_af.below hb_bf (b0_af).lt
    have b1_bf := b1_af.below hb_bf (b1_af).lt
    have x_bf13 := b0_bf.cell 13 _ rfl
    have x_bf14 := b0_bf.cell 14 _ rfl
    go_wp2
    go_ret
    exact ⟨ret_bool HR.out.symm, B_bf⟩
  case pos =>
  have HR : Hid (R = true) := by rw [Hid, HZ.out]; simp [h_oid, h_af, h_bf, h_next, h_txs]
  have h_oidb : (r.oid == 0) = true := by simp; exact h_oid
  have h_nextb : (r.next == 0) = true := by simp; exact h_next
  have h_txsb : ((r.txs.length : Int) == 0) = true := by simp; exact List.length_eq_zero_iff.1 h_txs
  clear HZ h_oid h_next h_txs
  go_enter Tryz.func52, Tryz.ntmps52
  go_wp2_with fail
  rw [hW.out]
  clear hW
  refine (CA W hbW).mono ?_
  rintro e w_af ⟨rfl, hb_af⟩
  rw [h_af]
  have B_af : Below w.heap.size w w_af := (hbW).trans (hb_af.mono (hbW).size)
  have b0_af := b0.below hb_af (b0).lt
  have b1_af := b1.below hb_af (b1).lt
  have x_af5 := b0_af.cell 5 _ rfl
  have x_af6 := b0_af.cell 6 _ rfl
  have x_af7 := b0_af.cell 7 _ rfl
  have x_af8 := b0_af.cell 8 _ rfl
  have x_af13 := b0_af.cell 13 _ rfl
  have x_af14 := b0_af.cell 14 _ rfl
  have y_af0 := b1_af.cell 0 _ rfl
  have y_af1 := b1_af.cell 1 _ rfl
  have y_af2 := b1_af.cell 2 _ rfl
  have y_af3 := b1_af.cell 3 _ rfl
  go_wp2_with fail
  refine (CB w_af B_af).mono ?_
  rintro e w_bf ⟨rfl, hb_bf⟩
  rw [h_bf]
  have B_bf : Below w.heap.size w w_bf := (B_af).trans (hb_bf.mono (B_af).size)
  have b0_bf := b0_af.below hb_bf (b0_af).lt
  have b1_bf := b1_af.below hb_bf (b1_af).lt
  have x_bf13 := b0_bf.cell 13 _ rfl
  have x_bf14 := b0_bf.cell 14 _ rfl
  go_wp2
  go_ret
  exact ⟨ret_bool HR.out.symm, B_bf⟩

end Go.Proofs.YtickiokdcbeefaaGreatDoor

/- The walk of spec.l4Lives. -/
namespace Go.Proofs.YtickiokdcbeefaaGreatDoor
open Go.RowKit

/-- Is the one at k right, and above the one ahead of it? -/
def liveOk (lsn : Int) (ls : List LiveV) : Nat → Bool
  | 0 => inB (ls.getD 0 zeroL).tx 1 1000 && inB (ls.getD 0 zeroL).last 1 (lsn - 1)
  | k + 1 => inB (ls.getD (k + 1) zeroL).tx 1 1000 && inB (ls.getD (k + 1) zeroL).last 1 (lsn - 1) && decide ((ls.getD k zeroL).tx < (ls.getD (k + 1) zeroL).tx)
def livesB (lsn : Int) (ls : List LiveV) : Bool := (List.range ls.length).all (liveOk lsn ls) && decide (ls.length ≤ 20)
theorem livesB_no {lsn : Int} {ls : List LiveV} (k : Nat) (hk : k < ls.length) (h : liveOk lsn ls k = false) : livesB lsn ls = false := by
  have : (List.range ls.length).all (liveOk lsn ls) = false := by
    rw [List.all_eq_false]
    exact ⟨k, List.mem_range.2 hk, by rw [h]; decide⟩
  simp [livesB, this]
theorem livesB_all {lsn : Int} {ls : List LiveV} (h : ∀ k, k < ls.length → liveOk lsn ls k = true) : livesB lsn ls = decide (ls.length ≤ 20) := by
  have : (List.range ls.length).all (liveOk lsn ls) = true := by
    rw [List.all_eq_true]
    exact fun k hk => h k (List.mem_range.1 hk)
  simp [livesB, this]

set_option maxHeartbeats 2000000 in
set_option maxRecDepth 100000 in
theorem l4Lives_any (r : RecA) (w : World) (hr : ReadsL w r.aL r.txs) (hl : r.txs.length ≤ 1099511627776) (hn : 1 ≤ r.lsn ∧ r.lsn ≤ 1000000) :
    Calls Tryz.prog 53 #[.agg r.cells.toArray] w fun e w' => e = .returned (.bool (livesB r.lsn r.txs)) ∧ Below w.heap.size w w' := by
  obtain ⟨W, hW, b0, hbW, hsW⟩ := boxes1 w r.cells 42
  have HNO : Hid (∀ k, k < r.txs.length → liveOk r.lsn r.txs k = false → livesB r.lsn r.txs = false) := fun k hk h => livesB_no k hk h
  have HAL : Hid ((∀ k, k < r.txs.length → liveOk r.lsn r.txs k = true) → livesB r.lsn r.txs = decide (r.txs.length ≤ 20)) := fun h => livesB_all h
  generalize livesB r.lsn r.txs = R at *
  have hc0 := b0.cell 0 _ rfl
  have hc14 := b0.cell 14 _ rfl
  simp only [RecA.cells] at hW ⊢
  clear hsW b0
  generalize r.lsn = lsn at *
  generalize r.txs = ls at *
  generalize r.aL = aL at *
  have hr' := hr.below hbW
  clear hr
  go_enter Tryz.func53, Tryz.ntmps53
  go_wp2_with fail
  rw [hW.out]
  clear hW
  go_loopw [3] (fun i wr => ∃ k : Nat, k ≤ ls.length ∧ i = .int .i64 k ∧ Hid (∀ j, j < k → liveOk lsn ls j = true) ∧ Below W.heap.size W wr) (fun i _ => ls.length - (intOf i).toNat)
  case atStart => exact ⟨0, Nat.zero_le _, rfl, fun j hj => by omega, Below.refl _ _⟩
  case round =>
    obtain ⟨k, hk, rfl, hall, hbl⟩ := hrel
    have hbm : Below w.heap.size w wr := hbW.trans (hbl.mono hbW.size)
    have r0 := (hbl.cell (block_lt hc0)).trans hc0
    have r14 := (hbl.cell (block_lt hc14)).trans hc14
    have hrr := hr'.below hbl
    clear hc0 hc14 hr'
    by_cases hlt : k < ls.length
    · obtain ⟨b, off, rfl, hcell⟩ := hrr (by intro e; rw [e] at hlt; simp at hlt)
      obtain ⟨c0, c1, _⟩ := hcell k hlt
      cases k with
      | zero =>
        clear hcell
        simp only [Nat.zero_mul, Nat.add_zero] at c0 c1
        have HL : Hid (liveOk lsn ls 0 = (inB (ls.getD 0 zeroL).tx 1 1000 && inB (ls.getD 0 zeroL).last 1 (lsn - 1))) := rfl
        generalize ls.getD 0 zeroL = z at *
        cases h1 : inB z.tx 1 1000 with
        | false =>
          have HR : Hid (R = false) := HNO.out 0 hlt (by rw [HL.out, h1]; rfl)
          clear HL HNO HAL
          go_wp2
          go_quiet ((go_at_call 27; exact Calls.quiet_of_same (l1In_any _ _ _ _)))
          go_wp2
          go_ret
          exact ⟨ret_bool HR.out.symm, by first | exact below_drewN hbm _ | exact hbm⟩
        | true =>
          cases h2 : inB z.last 1 (lsn - 1) with
          | false =>
            have HR : Hid (R = false) := HNO.out 0 hlt (by rw [HL.out, h1, h2]; rfl)
            clear HL HNO HAL
            go_wp2
            go_quiet ((go_at_call 27; exact Calls.quiet_of_same (l1In_any _ _ _ _)))
            go_wp2
            go_ret
            exact ⟨ret_bool HR.out.symm, by first | exact below_drewN hbm _ | exact hbm⟩
          | true =>
            have HR : Hid (∀ j, j < 1 → liveOk lsn ls j = true) := fun j hj => by
              obtain rfl : j = 0 := by omega
              rw [HL.out, h1, h2]
              rfl
            clear HL HNO HAL
            go_wp2
            go_quiet ((go_at_call 27; exact Calls.quiet_of_same (l1In_any _ _ _ _)))
            go_wp2
            go_roundw
            case rel => exact ⟨1, by omega, by go_num, HR, by first | exact below_drewN hbl _ | exact hbl⟩
            case measure => simp [intOf]; omega
      | succ j =>
        obtain ⟨d0, _, _⟩ := hcell j (by omega)
        clear hcell
        have HL : Hid (liveOk lsn ls (j + 1) = (inB (ls.getD (j + 1) zeroL).tx 1 1000 && inB (ls.getD (j + 1) zeroL).last 1 (lsn - 1) && decide ((ls.getD j zeroL).tx < (ls.getD (j + 1) zeroL).tx))) := rfl
        generalize ls.getD (j + 1) zeroL = z at *
        generalize ls.getD j zeroL = p at *
        cases h1 : inB z.tx 1 1000 with
        | false =>
          have HR : Hid (R = false) := HNO.out (j + 1) hlt (by rw [HL.out, h1]; rfl)
          clear HL HNO HAL
          go_wp2
          go_quiet ((go_at_call 27; exact Calls.quiet_of_same (l1In_any _ _ _ _)))
          go_wp2
          go_ret
          exact ⟨ret_bool HR.out.symm, by first | exact below_drewN hbm _ | exact hbm⟩
        | true =>
          cases h2 : inB z.last 1 (lsn - 1) with
          | false =>
            have HR : Hid (R = false) := HNO.out (j + 1) hlt (by rw [HL.out, h1, h2]; rfl)
            clear HL HNO HAL
            go_wp2
            go_quiet ((go_at_call 27; exact Calls.quiet_of_same (l1In_any _ _ _ _)))
            go_wp2
            go_ret
            exact ⟨ret_bool HR.out.symm, by first | exact below_drewN hbm _ | exact hbm⟩
          | true =>
            by_cases h3 : p.tx < z.tx
            case neg =>
              have HR : Hid (R = false) := HNO.out (j + 1) hlt (by rw [HL.out, h1, h2, decide_eq_false h3]; rfl)
              have h3b : decide (z.tx ≤ p.tx) = true := by simpa using h3
              clear HL HNO HAL
              go_wp2
              go_quiet ((go_at_call 27; exact Calls.quiet_of_same (l1In_any _ _ _ _)))
              go_wp2
              go_ret
              exact ⟨ret_bool HR.out.symm, by first | exact below_drewN hbm _ | exact hbm⟩
            case pos =>
              have HR : Hid (∀ i, i < j + 1 + 1 → liveOk lsn ls i = true) := fun i hi => by
                by_cases e : i = j + 1
                · rw [e, HL.out, h1, h2, decide_eq_true h3]; rfl
                · exact hall.out i (by omega)
              have h3b : decide (z.tx ≤ p.tx) = false := by simpa using h3
              clear HL HNO HAL
              go_wp2
              go_quiet ((go_at_call 27; exact Calls.quiet_of_same (l1In_any _ _ _ _)))
              go_wp2
              go_roundw
              case rel => exact ⟨j + 1 + 1, by omega, by go_num, HR, by first | exact below_drewN hbl _ | exact hbl⟩
              case measure => simp [intOf]; omega
    · have HR : Hid (R = decide ((ls.length : Int) ≤ 20)) := by
        rw [Hid, HAL.out (fun j hj => hall.out j (by omega))]
        simp only [decide_eq_decide]
        omega
      clear HNO HAL
      go_wp2
      go_ret
      exact ⟨ret_bool HR.out.symm, hbm⟩
end Go.Proofs.YtickiokdcbeefaaGreatDoor

/- The walk of spec.FreeSlot. -/
namespace Go.Proofs.YtickiokdcbeefaaGreatDoor
open Go.RowKit

theorem Box.pslot {w : World} {B : Nat} {v : Value} {ss : List SlotA} {t : TypeId} (b : Box w B (v :: cellsS ss) t) (k : Nat) (hk : k < ss.length) :
    w.cell? ⟨B, 1 + k * 4, none⟩ = some (.bool (ss.getD k zeroS).v.has) ∧ w.cell? ⟨B, 1 + k * 4 + 1, none⟩ = some (.int .i64 (ss.getD k zeroS).v.o.kind) ∧
    w.cell? ⟨B, 1 + k * 4 + 2, none⟩ = some (.slice (ss.getD k zeroS).aI (ss.getD k zeroS).v.o.ints.length (ss.getD k zeroS).cI) ∧ w.cell? ⟨B, 1 + k * 4 + 3, none⟩ = some (.slice (ss.getD k zeroS).aR (ss.getD k zeroS).v.o.refs.length (ss.getD k zeroS).cR) ∧
    (∀ i, w.frozen? ⟨B, i, none⟩ = false) := by
  have key : ∀ j, j < 4 → (v :: cellsS ss)[1 + k * 4 + j]? = (ss.getD k zeroS).cells[j]? := fun j hj => by
    rw [show 1 + k * 4 + j = (k * 4 + j) + 1 by omega, List.getElem?_cons_succ]
    exact cellsS_at ss k j hk hj
  exact ⟨b.cell _ _ (key 0 (by omega)), b.cell _ _ (key 1 (by omega)), b.cell _ _ (key 2 (by omega)), b.cell _ _ (key 3 (by omega)), fun i => b.frozen i⟩

end Go.Proofs.YtickiokdcbeefaaGreatDoor

/- The walks of spec.l3Slot and spec.PageOk. -/
namespace Go.Proofs.YtickiokdcbeefaaGreatDoor
open Go.RowKit

theorem slotB_of (o : ObjV) (a b c : Bool) (h1 : decide (o.kind = 0) = a) (h2 : decide (o.ints.length = 0) = b) (h3 : decide (o.refs.length = 0) = c) : slotB ⟨false, o⟩ = (a && (b && c)) := by
  rw [← h1, ← h2, ← h3]; rfl

set_option maxHeartbeats 400000 in
set_option maxRecDepth 100000 in
theorem l3Slot_any (s : SlotA) (w : World) (hr : s.reads w) (hl : Fit [s]) :
    Calls Tryz.prog 51 #[.agg s.cells.toArray] w fun e w' => e = .returned (.bool (slotB s.v)) ∧ Below w.heap.size w w' := by
  obtain ⟨h1, h2⟩ := hl s (List.mem_singleton.2 rfl)
  obtain ⟨W, hW, b0, hbW, hsW⟩ := boxes1 w s.cells 39
  have hr' : s.reads W := ReadsO.below hr hbW
  obtain ⟨⟨h, o⟩, aI, cI, aR, cR⟩ := s
  simp only [SlotA.cells, SlotA.reads] at *
  cases h with
  | true =>
    have C1 := specObjOk_any o aI cI aR cR W hr' (by omega) (by omega)
    have HE : Hid (slotB ⟨true, o⟩ = okB o) := slotB_has rfl
    generalize slotB ⟨true, o⟩ = R at *
    go_enter Tryz.func51, Tryz.ntmps51
    go_wp2_with fail
    rw [hW.out]
    refine C1.mono ?_
    rintro e w1 ⟨rfl, hb1⟩
    go_wp2
    go_ret
    exact ⟨ret_bool HE.out.symm, hbW.trans (hb1.mono hbW.size)⟩
  | false =>
    have HE := slotB_of o
    generalize slotB ⟨false, o⟩ = R at *
    obtain ⟨k, ints, refs⟩ := o
    obtain ⟨x0, x1, x2, x3, _⟩ := b0.four
    simp only at *
    by_cases hk : k = 0
    case neg =>
      have HR : Hid (R = false) := HE false _ _ (decide_eq_false hk) rfl rfl
      have hkb : (k == 0) = false := by simpa using hk
      clear HE hk
      go_enter Tryz.func51, Tryz.ntmps51
      go_wp2
      go_ret
      exact ⟨ret_bool HR.out.symm, by rw [hW.out]; exact hbW⟩
    case pos =>
    subst hk
    by_cases hi : ints.length = 0
    case neg =>
      have HR : Hid (R = false) := HE true false _ (decide_eq_true rfl) (decide_eq_false hi) rfl
      have hib : ((ints.length : Int) == 0) = false := by simp; exact fun e => hi (by rw [e]; rfl)
      clear HE hi
      go_enter Tryz.func51, Tryz.ntmps51
      go_wp2
      go_ret
      exact ⟨ret_bool HR.out.symm, by rw [hW.out]; exact hbW⟩
    case pos =>
    by_cases hj : refs.length = 0
    case neg =>
      have HR : Hid (R = false) := HE true true false (decide_eq_true rfl) (decide_eq_true hi) (decide_eq_false hj)
      have hib : ((ints.length : Int) == 0) = true := by simp; exact List.length_eq_zero_iff.1 hi
      have hjb : ((refs.length : Int) == 0) = false := by simp; exact fun e => hj (by rw [e]; rfl)
      clear HE hi hj
      go_enter Tryz.func51, Tryz.ntmps51
      go_wp2
      go_ret
      exact ⟨ret_bool HR.out.symm, by rw [hW.out]; exact hbW⟩
    case pos =>
      have HR : Hid (R = true) := HE true true true (decide_eq_true rfl) (decide_eq_true hi) (decide_eq_true hj)
      have hib : ((ints.length : Int) == 0) = true := by simp; exact List.length_eq_zero_iff.1 hi
      have hjb : ((refs.length : Int) == 0) = true := by simp; exact List.length_eq_zero_iff.1 hj
      clear HE hi hj
      go_enter Tryz.func51, Tryz.ntmps51
      go_wp2
      go_ret
      exact ⟨ret_bool HR.out.symm, by rw [hW.out]; exact hbW⟩

end Go.Proofs.YtickiokdcbeefaaGreatDoor

/- The walk of spec.RecOk. -/
namespace Go.Proofs.YtickiokdcbeefaaGreatDoor
open Go.RowKit

/-- Is the record right? -/
def okR (r : RecV) : Bool :=
  inB r.lsn 1 1000000 && (slotB r.bf && (slotB r.af &&
    (if r.kind == 6 then zeroB r false false false false true && livesB r.lsn r.txs
     else inB r.tx 1 1000 && (inB r.prev 0 (r.lsn - 1) &&
      (if r.kind == 1 then zeroB r true true true false false && inB r.oid 1 31
       else if r.kind == 4 then zeroB r true true false true false && (inB r.oid 1 31 && inB r.next 0 (r.lsn - 1))
       else if r.kind == 2 then zeroB r true false false false false
       else if r.kind == 3 then zeroB r true false false false false
       else if r.kind == 5 then zeroB r true false false false false
       else false)))))

theorem inB_both {x l m : Int} (h : inB x l m = true) : l ≤ x ∧ x ≤ m := by simpa [inB] using h
theorem fifteen {w : World} {B : Nat} {x0 x1 x2 x3 x4 x5 x6 x7 x8 x9 x10 x11 x12 x13 x14 : Value} {t : TypeId} (b : Box w B [x0, x1, x2, x3, x4, x5, x6, x7, x8, x9, x10, x11, x12, x13, x14] t) :
    w.cell? ⟨B, 0, none⟩ = some x0 ∧ w.cell? ⟨B, 1, none⟩ = some x1 ∧ w.cell? ⟨B, 2, none⟩ = some x2 ∧ w.cell? ⟨B, 3, none⟩ = some x3 ∧ w.cell? ⟨B, 4, none⟩ = some x4 ∧ w.cell? ⟨B, 5, none⟩ = some x5 ∧ w.cell? ⟨B, 6, none⟩ = some x6 ∧ w.cell? ⟨B, 7, none⟩ = some x7 ∧ w.cell? ⟨B, 8, none⟩ = some x8 ∧ w.cell? ⟨B, 9, none⟩ = some x9 ∧ w.cell? ⟨B, 10, none⟩ = some x10 ∧ w.cell? ⟨B, 11, none⟩ = some x11 ∧ w.cell? ⟨B, 12, none⟩ = some x12 ∧ w.cell? ⟨B, 13, none⟩ = some x13 ∧ w.cell? ⟨B, 14, none⟩ = some x14 :=
  ⟨b.cell 0 _ rfl, b.cell 1 _ rfl, b.cell 2 _ rfl, b.cell 3 _ rfl, b.cell 4 _ rfl, b.cell 5 _ rfl, b.cell 6 _ rfl, b.cell 7 _ rfl, b.cell 8 _ rfl, b.cell 9 _ rfl, b.cell 10 _ rfl, b.cell 11 _ rfl, b.cell 12 _ rfl, b.cell 13 _ rfl, b.cell 14 _ rfl⟩

set_option maxHeartbeats 4000000 in
set_option maxRecDepth 100000 in
theorem specRecOk_any (r : RecA) (w : World) (hr : r.reads w) (hl : r.short 1099511627776) :
    Calls Tryz.prog 28 #[.agg r.cells.toArray] w fun e w' => e = .returned (.bool (okR r.v)) ∧ Below w.heap.size w w' := by
  obtain ⟨W, hW, b0, hbW, hsW⟩ := boxes1 w r.cells 42
  have HB : Hid (∀ u, Below w.heap.size w u → Calls _ _ _ _ _) := fun u hu => l3Slot_any r.bf u (ReadsO.below hr.bf hu) (fun s hs => by obtain rfl := List.mem_singleton.1 hs; exact hl.bf)
  have HA : Hid (∀ u, Below w.heap.size w u → Calls _ _ _ _ _) := fun u hu => l3Slot_any r.af u (ReadsO.below hr.af hu) (fun s hs => by obtain rfl := List.mem_singleton.1 hs; exact hl.af)
  have HC : Hid (∀ u, Below w.heap.size w u → Calls _ _ _ _ _) := fun u hu => l4Zero_check r u (hr.below hu) hl
  have HS : Hid (∀ u, Below w.heap.size w u → Calls _ _ _ _ _) := fun u hu => l4Zero_set r u (hr.below hu) hl
  have HK : Hid (∀ u, Below w.heap.size w u → Calls _ _ _ _ _) := fun u hu => l4Zero_back r u (hr.below hu) hl
  have HE : Hid (∀ u, Below w.heap.size w u → Calls _ _ _ _ _) := fun u hu => l4Zero_end r u (hr.below hu) hl
  have HL : Hid (∀ u, Below w.heap.size w u → 1 ≤ r.lsn ∧ r.lsn ≤ 1000000 → Calls _ _ _ _ _) := fun u hu hn => l4Lives_any r u (hr.txs.below hu) hl.txs hn
  have HX : Hid (∀ u, Below W.heap.size W u → Box u w.heap.size r.cells 42) := fun u hu => b0.below hu b0.lt
  have HZ : Hid (okR r.v = (inB r.lsn 1 1000000 && (slotB r.bf.v && (slotB r.af.v &&
    (if r.kind == 6 then zeroB r.v false false false false true && livesB r.lsn r.txs
     else inB r.tx 1 1000 && (inB r.prev 0 (r.lsn - 1) &&
      (if r.kind == 1 then zeroB r.v true true true false false && inB r.oid 1 31
       else if r.kind == 4 then zeroB r.v true true false true false && (inB r.oid 1 31 && inB r.next 0 (r.lsn - 1))
       else if r.kind == 2 then zeroB r.v true false false false false
       else if r.kind == 3 then zeroB r.v true false false false false
       else if r.kind == 5 then zeroB r.v true false false false false
       else false)))))) ) := rfl
  generalize okR r.v = R at *
  clear hsW hr hl b0
  simp only [RecA.cells, SlotA.cells] at *
  go_enter Tryz.func28, Tryz.ntmps28
  go_wp2_with fail
  rw [hW.out]
  clear hW
  obtain ⟨x0, x1, x2, x3, x4, x5, x6, x7, x8, x9, x10, x11, x12, x13, x14⟩ := fifteen (HX.out W (Below.refl _ _))
  have BW : Below W.heap.size W W := Below.refl _ _
  refine (l1In_any _ _ _ W).mono ?_
  rintro e u ⟨rfl, hu⟩
  rw [hu]
  clear hu u
  cases h0 : inB r.lsn 1 1000000 with
  | false =>
    have HR : Hid (R = false) := by rw [Hid, HZ.out]; simp [h0]
    clear HZ
    go_wp2
    go_ret
    exact ⟨ret_bool HR.out.symm, hbW⟩
  | true =>
    have hn := inB_both h0
    go_wp2_with fail
    refine (HB.out W hbW).mono ?_
    clear x0 x1 x2 x3 x4 x5 x6 x7 x8 x9 x10 x11 x12 x13 x14
    rintro e u1 ⟨rfl, hb_u1⟩
    have b_u1 : Below w.heap.size w u1 := (hbW).trans (hb_u1.mono (hbW).size)
    have l_u1 : Below W.heap.size W u1 := (BW).trans (hb_u1.mono (BW).size)
    obtain ⟨x0, x1, x2, x3, x4, x5, x6, x7, x8, x9, x10, x11, x12, x13, x14⟩ := fifteen (HX.out u1 l_u1)
    clear hb_u1
    cases h1 : slotB r.bf.v with
    | false =>
      have HR : Hid (R = false) := by rw [Hid, HZ.out]; simp [h0, h1]
      clear HZ
      go_wp2
      go_ret
      exact ⟨ret_bool HR.out.symm, b_u1⟩
    | true =>
      go_wp2_with fail
      refine (HA.out u1 b_u1).mono ?_
      clear x0 x1 x2 x3 x4 x5 x6 x7 x8 x9 x10 x11 x12 x13 x14
      rintro e u2 ⟨rfl, hb_u2⟩
      have b_u2 : Below w.heap.size w u2 := (b_u1).trans (hb_u2.mono (b_u1).size)
      have l_u2 : Below W.heap.size W u2 := (l_u1).trans (hb_u2.mono (l_u1).size)
      obtain ⟨x0, x1, x2, x3, x4, x5, x6, x7, x8, x9, x10, x11, x12, x13, x14⟩ := fifteen (HX.out u2 l_u2)
      clear hb_u2
      cases h2 : slotB r.af.v with
      | false =>
        have HR : Hid (R = false) := by rw [Hid, HZ.out]; simp [h0, h1, h2]
        clear HZ
        go_wp2
        go_ret
        exact ⟨ret_bool HR.out.symm, b_u2⟩
      | true =>
        cases hk6 : (r.kind == 6) with
        | true =>
          go_wp2_with fail
          refine (HC.out u2 b_u2).mono ?_
          clear x0 x1 x2 x3 x4 x5 x6 x7 x8 x9 x10 x11 x12 x13 x14
          rintro e u3 ⟨rfl, hb_u3⟩
          have b_u3 : Below w.heap.size w u3 := (b_u2).trans (hb_u3.mono (b_u2).size)
          have l_u3 : Below W.heap.size W u3 := (l_u2).trans (hb_u3.mono (l_u2).size)
          obtain ⟨x0, x1, x2, x3, x4, x5, x6, x7, x8, x9, x10, x11, x12, x13, x14⟩ := fifteen (HX.out u3 l_u3)
          clear hb_u3
          cases h3 : zeroB r.v false false false false true with
          | false =>
            have HR : Hid (R = false) := by rw [Hid, HZ.out]; simp [h0, h1, h2, hk6, h3]
            clear HZ
            go_wp2
            go_ret
            exact ⟨ret_bool HR.out.symm, b_u3⟩
          | true =>
            go_wp2_with fail
            refine (HL.out u3 b_u3 hn).mono ?_
            clear x0 x1 x2 x3 x4 x5 x6 x7 x8 x9 x10 x11 x12 x13 x14
            rintro e u4 ⟨rfl, hb_u4⟩
            have b_u4 : Below w.heap.size w u4 := (b_u3).trans (hb_u4.mono (b_u3).size)
            have l_u4 : Below W.heap.size W u4 := (l_u3).trans (hb_u4.mono (l_u3).size)
            obtain ⟨x0, x1, x2, x3, x4, x5, x6, x7, x8, x9, x10, x11, x12, x13, x14⟩ := fifteen (HX.out u4 l_u4)
            clear hb_u4
            cases h4 : livesB r.lsn r.txs with
            | false =>
              have HR : Hid (R = false) := by rw [Hid, HZ.out]; simp [h0, h1, h2, hk6, h3, h4]
              clear HZ
              go_wp2
              go_ret
              exact ⟨ret_bool HR.out.symm, b_u4⟩
            | true =>
              have HR : Hid (R = true) := by rw [Hid, HZ.out]; simp [h0, h1, h2, hk6, h3, h4]
              clear HZ
              go_wp2
              go_ret
              exact ⟨ret_bool HR.out.symm, b_u4⟩
        | false =>
          go_wp2_with fail
          refine (l1In_any _ _ _ u2).mono ?_
          rintro e v ⟨rfl, hv⟩
          rw [hv]
          clear hv v
          cases h3 : inB r.tx 1 1000 with
          | false =>
            have HR : Hid (R = false) := by rw [Hid, HZ.out]; simp [h0, h1, h2, hk6, h3]
            clear HZ
            go_wp2
            go_ret
            exact ⟨ret_bool HR.out.symm, b_u2⟩
          | true =>
            go_wp2_with fail
            refine (l1In_any _ _ _ u2).mono ?_
            rintro e v ⟨rfl, hv⟩
            rw [hv]
            clear hv v
            cases h4 : inB r.prev 0 (r.lsn - 1) with
            | false =>
              have HR : Hid (R = false) := by rw [Hid, HZ.out]; simp [h0, h1, h2, hk6, h3, h4]
              clear HZ
              go_wp2
              go_ret
              exact ⟨ret_bool HR.out.symm, b_u2⟩
            | true =>
              cases hk1 : (r.kind == 1) with
              | true =>
                go_wp2_with fail
                refine (HS.out u2 b_u2).mono ?_
                clear x0 x1 x2 x3 x4 x5 x6 x7 x8 x9 x10 x11 x12 x13 x14
                rintro e u3 ⟨rfl, hb_u3⟩
                have b_u3 : Below w.heap.size w u3 := (b_u2).trans (hb_u3.mono (b_u2).size)
                have l_u3 : Below W.heap.size W u3 := (l_u2).trans (hb_u3.mono (l_u2).size)
                obtain ⟨x0, x1, x2, x3, x4, x5, x6, x7, x8, x9, x10, x11, x12, x13, x14⟩ := fifteen (HX.out u3 l_u3)
                clear hb_u3
                cases h5 : zeroB r.v true true true false false with
                | false =>
                  have HR : Hid (R = false) := by rw [Hid, HZ.out]; simp [h0, h1, h2, hk6, h3, h4, hk1, h5]
                  clear HZ
                  go_wp2
                  go_ret
                  exact ⟨ret_bool HR.out.symm, b_u3⟩
                | true =>
                  go_wp2_with fail
                  refine (l1In_any _ _ _ u3).mono ?_
                  rintro e v ⟨rfl, hv⟩
                  rw [hv]
                  clear hv v
                  cases h6 : inB r.oid 1 31 with
                  | false =>
                    have HR : Hid (R = false) := by rw [Hid, HZ.out]; simp [h0, h1, h2, hk6, h3, h4, hk1, h5, h6]
                    clear HZ
                    go_wp2
                    go_ret
                    exact ⟨ret_bool HR.out.symm, b_u3⟩
                  | true =>
                    have HR : Hid (R = true) := by rw [Hid, HZ.out]; simp [h0, h1, h2, hk6, h3, h4, hk1, h5, h6]
                    clear HZ
                    go_wp2
                    go_ret
                    exact ⟨ret_bool HR.out.symm, b_u3⟩
              | false =>
                cases hk4 : (r.kind == 4) with
                | true =>
                  go_wp2_with fail
                  refine (HK.out u2 b_u2).mono ?_
                  clear x0 x1 x2 x3 x4 x5 x6 x7 x8 x9 x10 x11 x12 x13 x14
                  rintro e u3 ⟨rfl, hb_u3⟩
                  have b_u3 : Below w.heap.size w u3 := (b_u2).trans (hb_u3.mono (b_u2).size)
                  have l_u3 : Below W.heap.size W u3 := (l_u2).trans (hb_u3.mono (l_u2).size)
                  obtain ⟨x0, x1, x2, x3, x4, x5, x6, x7, x8, x9, x10, x11, x12, x13, x14⟩ := fifteen (HX.out u3 l_u3)
                  clear hb_u3
                  cases h5 : zeroB r.v true true false true false with
                  | false =>
                    have HR : Hid (R = false) := by rw [Hid, HZ.out]; simp [h0, h1, h2, hk6, h3, h4, hk1, hk4, h5]
                    clear HZ
                    go_wp2
                    go_ret
                    exact ⟨ret_bool HR.out.symm, b_u3⟩
                  | true =>
                    go_wp2_with fail
                    refine (l1In_any _ _ _ u3).mono ?_
                    rintro e v ⟨rfl, hv⟩
                    rw [hv]
                    clear hv v
                    cases h6 : inB r.oid 1 31 with
                    | false =>
                      have HR : Hid (R = false) := by rw [Hid, HZ.out]; simp [h0, h1, h2, hk6, h3, h4, hk1, hk4, h5, h6]
                      clear HZ
                      go_wp2
                      go_ret
                      exact ⟨ret_bool HR.out.symm, b_u3⟩
                    | true =>
                      go_wp2_with fail
                      refine (l1In_any _ _ _ u3).mono ?_
                      rintro e v ⟨rfl, hv⟩
                      rw [hv]
                      clear hv v
                      cases h7 : inB r.next 0 (r.lsn - 1) with
                      | false =>
                        have HR : Hid (R = false) := by rw [Hid, HZ.out]; simp [h0, h1, h2, hk6, h3, h4, hk1, hk4, h5, h6, h7]
                        clear HZ
                        go_wp2
                        go_ret
                        exact ⟨ret_bool HR.out.symm, b_u3⟩
                      | true =>
                        have HR : Hid (R = true) := by rw [Hid, HZ.out]; simp [h0, h1, h2, hk6, h3, h4, hk1, hk4, h5, h6, h7]
                        clear HZ
                        go_wp2
                        go_ret
                        exact ⟨ret_bool HR.out.symm, b_u3⟩
                | false =>
                  cases hk2 : (r.kind == 2) with
                  | true =>
                    go_wp2_with fail
                    refine (HE.out u2 b_u2).mono ?_
                    clear x0 x1 x2 x3 x4 x5 x6 x7 x8 x9 x10 x11 x12 x13 x14
                    rintro e u3 ⟨rfl, hb_u3⟩
                    have b_u3 : Below w.heap.size w u3 := (b_u2).trans (hb_u3.mono (b_u2).size)
                    have l_u3 : Below W.heap.size W u3 := (l_u2).trans (hb_u3.mono (l_u2).size)
                    obtain ⟨x0, x1, x2, x3, x4, x5, x6, x7, x8, x9, x10, x11, x12, x13, x14⟩ := fifteen (HX.out u3 l_u3)
                    clear hb_u3
                    cases h5 : zeroB r.v true false false false false with
                    | false =>
                      have HR : Hid (R = false) := by rw [Hid, HZ.out]; simp [h0, h1, h2, hk6, h3, h4, hk1, hk4, hk2, h5]
                      clear HZ
                      go_wp2
                      go_ret
                      exact ⟨ret_bool HR.out.symm, b_u3⟩
                    | true =>
                      have HR : Hid (R = true) := by rw [Hid, HZ.out]; simp [h0, h1, h2, hk6, h3, h4, hk1, hk4, hk2, h5]
                      clear HZ
                      go_wp2
                      go_ret
                      exact ⟨ret_bool HR.out.symm, b_u3⟩
                  | false =>
                    cases hk3 : (r.kind == 3) with
                    | true =>
                      go_wp2_with fail
                      refine (HE.out u2 b_u2).mono ?_
                      clear x0 x1 x2 x3 x4 x5 x6 x7 x8 x9 x10 x11 x12 x13 x14
                      rintro e u3 ⟨rfl, hb_u3⟩
                      have b_u3 : Below w.heap.size w u3 := (b_u2).trans (hb_u3.mono (b_u2).size)
                      have l_u3 : Below W.heap.size W u3 := (l_u2).trans (hb_u3.mono (l_u2).size)
                      obtain ⟨x0, x1, x2, x3, x4, x5, x6, x7, x8, x9, x10, x11, x12, x13, x14⟩ := fifteen (HX.out u3 l_u3)
                      clear hb_u3
                      cases h5 : zeroB r.v true false false false false with
                      | false =>
                        have HR : Hid (R = false) := by rw [Hid, HZ.out]; simp [h0, h1, h2, hk6, h3, h4, hk1, hk4, hk2, hk3, h5]
                        clear HZ
                        go_wp2
                        go_ret
                        exact ⟨ret_bool HR.out.symm, b_u3⟩
                      | true =>
                        have HR : Hid (R = true) := by rw [Hid, HZ.out]; simp [h0, h1, h2, hk6, h3, h4, hk1, hk4, hk2, hk3, h5]
                        clear HZ
                        go_wp2
                        go_ret
                        exact ⟨ret_bool HR.out.symm, b_u3⟩
                    | false =>
                      cases hk5 : (r.kind == 5) with
                      | true =>
                        go_wp2_with fail
                        refine (HE.out u2 b_u2).mono ?_
                        clear x0 x1 x2 x3 x4 x5 x6 x7 x8 x9 x10 x11 x12 x13 x14
                        rintro e u3 ⟨rfl, hb_u3⟩
                        have b_u3 : Below w.heap.size w u3 := (b_u2).trans (hb_u3.mono (b_u2).size)
                        have l_u3 : Below W.heap.size W u3 := (l_u2).trans (hb_u3.mono (l_u2).size)
                        obtain ⟨x0, x1, x2, x3, x4, x5, x6, x7, x8, x9, x10, x11, x12, x13, x14⟩ := fifteen (HX.out u3 l_u3)
                        clear hb_u3
                        cases h5 : zeroB r.v true false false false false with
                        | false =>
                          have HR : Hid (R = false) := by rw [Hid, HZ.out]; simp [h0, h1, h2, hk6, h3, h4, hk1, hk4, hk2, hk3, hk5, h5]
                          clear HZ
                          go_wp2
                          go_ret
                          exact ⟨ret_bool HR.out.symm, b_u3⟩
                        | true =>
                          have HR : Hid (R = true) := by rw [Hid, HZ.out]; simp [h0, h1, h2, hk6, h3, h4, hk1, hk4, hk2, hk3, hk5, h5]
                          clear HZ
                          go_wp2
                          go_ret
                          exact ⟨ret_bool HR.out.symm, b_u3⟩
                      | false =>
                        have HR : Hid (R = false) := by rw [Hid, HZ.out]; simp [h0, h1, h2, hk6, h3, h4, hk1, hk4, hk2, hk3, hk5]
                        clear HZ
                        go_wp2
                        go_ret
                        exact ⟨ret_bool HR.out.symm, b_u2⟩
end Go.Proofs.YtickiokdcbeefaaGreatDoor

/- The walk of spec.Crc: it comes to crcOf. -/
namespace Go.Proofs.YtickiokdcbeefaaGreatDoor
open Go.RowKit

end Go.Proofs.YtickiokdcbeefaaGreatDoor

/- The walk of spec.l1Four. -/
namespace Go.Proofs.YtickiokdcbeefaaGreatDoor
open Go.RowKit

end Go.Proofs.YtickiokdcbeefaaGreatDoor

/- The walk of spec.Frame: it comes to frameOf. -/
namespace Go.Proofs.YtickiokdcbeefaaGreatDoor
open Go.RowKit

end Go.Proofs.YtickiokdcbeefaaGreatDoor
