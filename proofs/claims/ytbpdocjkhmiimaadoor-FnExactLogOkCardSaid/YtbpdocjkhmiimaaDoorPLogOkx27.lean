/- Several texts in one, in their order. -/
import Derived.Test.YtbpdocjkhmiimaaDoorPLogOkx2
import Derived.Test.YtbpdocjkhmiimaaDoorPLogOkx12
import Derived.Test.YtbpdocjkhmiimaaDoorPLogOkx26
import Derived.Test.YtbpdocjkhmiimaaDoorPLogOkx19
import Derived.Test.YtbpdocjkhmiimaaDoorPLogOkx24
import Derived.Test.YtbpdocjkhmiimaaDoorPLogOkx20
import Derived.Test.YtbpdocjkhmiimaaDoorPLogOkx23
/- When an object is right; the walks of impl.partsOk, impl.checkObj and impl.ObjOk. -/
namespace Go.Proofs.YtbpdocjkhmiimaaDoor
open Go.RowKit

def partsB (l : List Int) (least most : Int) : Bool := decide (l.length ≤ 5) && l.all (fun z => inB z least most)
theorem partsB_at {l : List Int} {least most : Int} (j : Nat) (hj : j < l.length) (h : inB (l.getD j 0) least most = false) : partsB l least most = false := by
  have : (l.all (fun z => inB z least most)) = false := by
    rw [List.all_eq_false]
    exact ⟨l.getD j 0, by simp [List.getD, hj], by rw [h]; decide⟩
  simp [partsB, this]
theorem partsB_all {l : List Int} {least most : Int} (h : ∀ j, j < l.length → inB (l.getD j 0) least most = true) : partsB l least most = decide (l.length ≤ 5) := by
  have : (l.all (fun z => inB z least most)) = true := by
    rw [List.all_eq_true]
    intro z hz
    obtain ⟨j, hj, rfl⟩ := List.getElem_of_mem hz
    have := h j hj
    simpa [List.getD, hj] using this
  simp [partsB, this]
theorem okB_parts (o : ObjV) : okB o = (inB o.kind 1 99 && (partsB o.ints (-1000000) 1000000 && partsB o.refs 0 31)) := by
  unfold okB partsB
  cases inB o.kind 1 99 <;> cases decide (o.ints.length ≤ 5) <;> cases decide (o.refs.length ≤ 5) <;> cases o.ints.all (fun z => inB z (-1000000) 1000000) <;> simp

theorem inB_false {x l m : Int} (h : inB x l m = false) : x < l ∨ (¬ x < l ∧ m < x) := by simp [inB] at h; omega
theorem inB_true {x l m : Int} (h : inB x l m = true) : ¬ x < l ∧ ¬ m < x := by simp [inB] at h; omega

/-- What checkObj answers of what is right, and of what is not. -/
def IsErr (ok : Bool) (e : Ending) : Prop := (ok = true ∧ e = .returned .nilIface) ∨ (ok = false ∧ ∃ s, e = .returned (.iface 104 (.agg #[.string s])))
theorem isErr_ok {ok : Bool} (h : ok = true) : IsErr ok (.returned .nilIface) := .inl ⟨h, rfl⟩
theorem isErr_no {ok : Bool} (h : ok = false) (s : ByteArray) : IsErr ok (.returned (.iface 104 (.agg #[.string s]))) := .inr ⟨h, s, rfl⟩

set_option maxHeartbeats 400000 in
theorem partsOk_any (a : Option Addr) (c : Nat) (l : List Int) (least most : Int) (w : World) (hr : ReadsI w a l) (hl : l.length ≤ 140737488355328) :
    Calls Tryd.prog 65 #[.slice a l.length c, .int .i64 least, .int .i64 most] w fun e w' => e = .returned (.bool (partsB l least most)) ∧ w' = w := by
  go_enter Tryd.func65, Tryd.ntmps65
  go_wp2
  go_loop [11] (fun i => ∃ j : Nat, j ≤ l.length ∧ i = .int .i64 j ∧ Hid (∀ t, t < j → inB (l.getD t 0) least most = true)) (fun i => l.length - (intOf i).toNat)
  case atStart => exact ⟨0, by omega, rfl, fun t ht => by omega⟩
  case round =>
    obtain ⟨j, hj, rfl, hall⟩ := hrel
    by_cases hlt : j < l.length
    · rcases hr.cases with rfl | ⟨b, off, rfl, hpos, hcell⟩
      · simp at hlt
      have hc := hcell j hlt
      clear hcell
      cases hz : inB (l.getD j 0) least most with
      | false =>
        have HE : Hid (partsB l least most = false) := partsB_at j hlt hz
        have hz' := inB_false hz
        clear hz
        generalize l.getD j 0 = z at *
        rcases hz' with h1 | ⟨h1, h2⟩
        all_goals
          go_wp2
          go_ret
          exact ⟨ret_bool HE.out.symm, rfl⟩
      | true =>
        have HN : Hid (∀ t, t < j + 1 → inB (l.getD t 0) least most = true) := by
          intro t ht
          by_cases e : t = j
          · rw [e]; exact hz
          · exact hall.out t (by omega)
        obtain ⟨h1, h2⟩ := inB_true hz
        clear hz
        generalize l.getD j 0 = z at *
        go_wp2
        go_round
        case rel => exact ⟨j + 1, by omega, by go_num, HN⟩
        case measure => simp [intOf]; omega
    · have HE : Hid (partsB l least most = decide (l.length ≤ 5)) := partsB_all (fun t ht => hall.out t (by omega))
      go_wp2
      go_ret
      exact ⟨ret_bool (by rw [HE.out]; exact decide_eq_decide.2 (by omega)), rfl⟩

set_option maxHeartbeats 1000000 in
set_option maxRecDepth 100000 in
theorem checkObj_any (o : ObjV) (aI : Option Addr) (cI : Nat) (aR : Option Addr) (cR : Nat) (w : World) (hr : ReadsO w aI cI aR cR o) (hnI : o.ints.length ≤ 140737488355328) (hnR : o.refs.length ≤ 140737488355328) :
    Calls Tryd.prog 61 #[.agg #[.int .i64 o.kind, .slice aI o.ints.length cI, .slice aR o.refs.length cR]] w fun e w' => IsErr (okB o) e ∧ Below w.heap.size w w' := by
  have HOK := okB_parts o
  generalize okB o = OK at *
  obtain ⟨k, ints, refs⟩ := o
  obtain ⟨hI, hR, _, _⟩ := hr
  simp only at *
  obtain ⟨W, hW, b0, hbW, hsW⟩ := boxes1 w [.int .i64 k, .slice aI ints.length cI, .slice aR refs.length cR] 37
  have hI' := hI.below hbW
  have hR' := hR.below hbW
  have x0 := b0.cell 0 _ rfl
  have x1 := b0.cell 1 _ rfl
  have x2 := b0.cell 2 _ rfl
  cases hk : inB k 1 99 with
  | false =>
    have HF : Hid (OK = false) := by rw [Hid, HOK, hk, Bool.false_and]
    clear HOK
    have hz' := inB_false hk
    clear hk
    rcases hz' with h1 | ⟨h1, h2⟩
    all_goals
      go_enter Tryd.func61, Tryd.ntmps61
      go_wp2
      go_ret
      exact ⟨isErr_no HF.out _, hW.out ▸ hbW⟩
  | true =>
  rw [hk, Bool.true_and] at HOK
  obtain ⟨h1, h2⟩ := inB_true hk
  clear hk
  cases hp : partsB ints (-1000000) 1000000 with
  | false =>
    have HF : Hid (OK = false) := by rw [Hid, HOK, hp, Bool.false_and]
    clear HOK
    have HP : Hid (_ = _) := hp
    clear hp
    go_enter Tryd.func61, Tryd.ntmps61
    go_wp2_with fail
    rw [hW.out]
    refine (partsOk_any aI cI ints _ _ W hI' hnI).mono ?_
    rintro e w' ⟨rfl, rfl⟩
    rw [HP.out]
    go_wp2
    go_ret
    exact ⟨isErr_no HF.out _, hbW⟩
  | true =>
  rw [hp, Bool.true_and] at HOK
  have HP : Hid (_ = _) := hp
  clear hp
  cases hq : partsB refs 0 31 with
  | false =>
    have HF : Hid (OK = false) := by rw [Hid, HOK, hq]
    clear HOK
    have HQ : Hid (_ = _) := hq
    clear hq
    go_enter Tryd.func61, Tryd.ntmps61
    go_wp2_with fail
    rw [hW.out]
    refine (partsOk_any aI cI ints _ _ W hI' hnI).mono ?_
    rintro e w' ⟨rfl, rfl⟩
    rw [HP.out]
    go_wp2_with fail
    refine (partsOk_any aR cR refs _ _ _ hR' hnR).mono ?_
    rintro e w' ⟨rfl, rfl⟩
    rw [HQ.out]
    go_wp2
    go_ret
    exact ⟨isErr_no HF.out _, hbW⟩
  | true =>
    have HF : Hid (OK = true) := by rw [Hid, HOK, hq]
    clear HOK
    have HQ : Hid (_ = _) := hq
    clear hq
    go_enter Tryd.func61, Tryd.ntmps61
    go_wp2_with fail
    rw [hW.out]
    refine (partsOk_any aI cI ints _ _ W hI' hnI).mono ?_
    rintro e w' ⟨rfl, rfl⟩
    rw [HP.out]
    go_wp2_with fail
    refine (partsOk_any aR cR refs _ _ _ hR' hnR).mono ?_
    rintro e w' ⟨rfl, rfl⟩
    rw [HQ.out]
    go_wp2
    go_ret
    exact ⟨isErr_ok HF.out, hbW⟩

set_option maxHeartbeats 1000000 in
set_option maxRecDepth 100000 in
theorem implObjOk_any (o : ObjV) (aI : Option Addr) (cI : Nat) (aR : Option Addr) (cR : Nat) (w : World) (hg : ErrT w) (hr : ReadsO w aI cI aR cR o) (hnI : o.ints.length ≤ 140737488355328) (hnR : o.refs.length ≤ 140737488355328) :
    Calls Tryd.prog 53 #[.agg #[.int .i64 o.kind, .slice aI o.ints.length cI, .slice aR o.refs.length cR]] w fun e w' => e = .returned (.bool (okB o)) ∧ Below w.heap.size w w' := by
  obtain ⟨W, hW, b0, hbW, hsW⟩ := boxes1 w [.int .i64 o.kind, .slice aI o.ints.length cI, .slice aR o.refs.length cR] 37
  have hr' := hr.below hbW
  have hg' := hg.keep hbW
  have x0 := b0.cell 0 _ rfl
  have x1 := b0.cell 1 _ rfl
  have x2 := b0.cell 2 _ rfl
  go_enter Tryd.func53, Tryd.ntmps53
  go_wp2_with fail
  rw [hW.out]
  refine (checkObj_any o aI cI aR cR W hr' hnI hnR).mono ?_
  rintro e w1 ⟨he, hb1⟩
  have B1 : Below w.heap.size w w1 := hbW.trans (hb1.mono hbW.size)
  rcases he with ⟨hok, rfl⟩ | ⟨hok, s, rfl⟩
  · have HO : Hid (_ = _) := hok
    clear hok
    go_wp2_with fail
    refine (isNo_nil w1).mono ?_
    rintro e w2 ⟨rfl, hb2⟩
    go_wp2
    go_ret
    exact ⟨by rw [HO.out]; rfl, B1.trans (hb2.mono B1.size)⟩
  · have HO : Hid (_ = _) := hok
    clear hok
    go_wp2_with fail
    refine (isNo_hit s w1 (hg'.keep hb1)).mono ?_
    rintro e w2 ⟨rfl, hb2⟩
    go_wp2
    go_ret
    exact ⟨by rw [HO.out]; rfl, B1.trans (hb2.mono B1.size)⟩
end Go.Proofs.YtbpdocjkhmiimaaDoor

/- The walks of impl.slotHas, impl.slotOk and impl.markSlots over either; a slot of a row taken out by its number. -/
namespace Go.Proofs.YtbpdocjkhmiimaaDoor
open Go.RowKit

theorem slotB_same {s : SlotV} (h : s.has = false) : slotB s = sameO s.o noO := by
  obtain ⟨b, k, i, r⟩ := s
  simp only at h
  subst h
  show slotB ⟨false, k, i, r⟩ = (decide (k = (0 : Int)) && (decide (i = ([] : List Int)) && decide (r = ([] : List Int))))
  rw [Bool.eq_iff_iff]
  simp [slotB]

set_option maxHeartbeats 400000 in
set_option maxRecDepth 100000 in
theorem slotOk_any (s : SlotA) (w : World) (hg : ErrT w) (hr : s.reads w) (hl : Fit [s]) :
    Calls Tryd.prog 34 #[.agg s.cells.toArray] w fun e w' => e = .returned (.bool (slotB s.v)) ∧ Below w.heap.size w w' := by
  obtain ⟨h1, h2⟩ := hl s (List.mem_singleton.2 rfl)
  obtain ⟨W, hW, b0, hbW, hsW⟩ := boxes1 w s.cells 39
  have hr' : s.reads W := ReadsO.below hr hbW
  have hg' := hg.keep hbW
  have HT : Hid (s.v.has = true → slotB s.v = okB s.v.o) := fun h => slotB_has h
  have HF : Hid (s.v.has = false → slotB s.v = sameO s.v.o noO) := fun h => slotB_same h
  have hno : ReadsO W none 0 none 0 noO := ⟨fun h => absurd rfl h, fun h => absurd rfl h, fun _ => rfl, fun _ => rfl⟩
  have C1 := implObjOk_any s.v.o s.aI s.cI s.aR s.cR W hg' hr' (by omega) (by omega)
  have C2 := implSameObj_any s.v.o noO s.aI s.cI s.aR s.cR none 0 none 0 W hr' hno (by omega) (by omega) (by simp [noO]) (by simp [noO])
  simp only [noO] at C2
  generalize slotB s.v = R at *
  simp only [SlotA.cells] at *
  cases hh : s.v.has with
  | true =>
    have HE : Hid (_ = _) := HT.out hh
    rw [hh] at hW
    clear hh C2 HT HF
    go_enter Tryd.func34, Tryd.ntmps34
    go_wp2_with fail
    rw [hW.out]
    refine C1.mono ?_
    rintro e w1 ⟨rfl, hb1⟩
    go_wp2
    go_ret
    exact ⟨ret_bool HE.out.symm, hbW.trans (hb1.mono hbW.size)⟩
  | false =>
    have HE : Hid (_ = _) := HF.out hh
    rw [hh] at hW
    clear hh C1 HT HF
    go_enter Tryd.func34, Tryd.ntmps34
    go_wp2_with fail
    rw [hW.out]
    refine C2.mono ?_
    rintro e w1 ⟨rfl, hb1⟩
    go_wp2
    go_ret
    exact ⟨ret_bool HE.out.symm, hbW.trans (hb1.mono hbW.size)⟩

theorem cells_take (ss : List SlotA) (k : Nat) (hk : k < ss.length) : ((cellsS ss).drop (k * 4)).take 4 = (ss.getD k zeroS).cells := by
  apply List.ext_getElem?
  intro j
  rw [List.getElem?_take]
  by_cases hj : j < 4
  · rw [if_pos (by omega), List.getElem?_drop]
    exact cellsS_at ss k j hk hj
  · rw [if_neg (by omega), List.getElem?_eq_none (by rw [cells_len]; omega)]
end Go.Proofs.YtbpdocjkhmiimaaDoor

/- What a record tells, as the landed code holds it: an interface with a type for each kind. -/
namespace Go.Proofs.YtbpdocjkhmiimaaDoor
open Go.RowKit

theorem yes_setDeed (W : World) (v : Value) : (Instr.typeAssert (.iface 74 v) 58 74 true).run Tryd.prog W = .ok (.tuple #[v, .bool true]) W := by kernel_rfl
theorem zero_setDeed (W : World) : (do pure (Value.tuple #[← zeroValue 74, .bool false]) : Sem Value).run Tryd.prog W = .ok (.tuple #[.agg #[.int .i64 0, .int .i64 0, .int .i64 0, .bool false, .int .i64 0, .slice none 0 0, .slice none 0 0, .bool false, .int .i64 0, .slice none 0 0, .slice none 0 0], .bool false]) W := by kernel_rfl
theorem nil_setDeed (W : World) : (Instr.typeAssert .nilIface 58 74 true).run Tryd.prog W = .ok (.tuple #[.agg #[.int .i64 0, .int .i64 0, .int .i64 0, .bool false, .int .i64 0, .slice none 0 0, .slice none 0 0, .bool false, .int .i64 0, .slice none 0 0, .slice none 0 0], .bool false]) W := by kernel_rfl
theorem no_setDeed (W : World) (u : TypeId) (v : Value) (h : u ≠ 74) : (Instr.typeAssert (.iface u v) 58 74 true).run Tryd.prog W = .ok (.tuple #[.agg #[.int .i64 0, .int .i64 0, .int .i64 0, .bool false, .int .i64 0, .slice none 0 0, .slice none 0 0, .bool false, .int .i64 0, .slice none 0 0, .slice none 0 0], .bool false]) W := by
  have e : (Instr.typeAssert (.iface u v) 58 74 true).run Tryd.prog W = (if u = 74 then (pure (Value.tuple #[v, .bool true]) : Sem Value) else (do pure (Value.tuple #[← zeroValue 74, .bool false]))).run Tryd.prog W := by kernel_rfl
  rw [e, if_neg h]
  exact zero_setDeed W

theorem yes_commitDeed (W : World) (v : Value) : (Instr.typeAssert (.iface 76 v) 58 76 true).run Tryd.prog W = .ok (.tuple #[v, .bool true]) W := by kernel_rfl
theorem zero_commitDeed (W : World) : (do pure (Value.tuple #[← zeroValue 76, .bool false]) : Sem Value).run Tryd.prog W = .ok (.tuple #[.agg #[.int .i64 0, .int .i64 0], .bool false]) W := by kernel_rfl
theorem nil_commitDeed (W : World) : (Instr.typeAssert .nilIface 58 76 true).run Tryd.prog W = .ok (.tuple #[.agg #[.int .i64 0, .int .i64 0], .bool false]) W := by kernel_rfl
theorem no_commitDeed (W : World) (u : TypeId) (v : Value) (h : u ≠ 76) : (Instr.typeAssert (.iface u v) 58 76 true).run Tryd.prog W = .ok (.tuple #[.agg #[.int .i64 0, .int .i64 0], .bool false]) W := by
  have e : (Instr.typeAssert (.iface u v) 58 76 true).run Tryd.prog W = (if u = 76 then (pure (Value.tuple #[v, .bool true]) : Sem Value) else (do pure (Value.tuple #[← zeroValue 76, .bool false]))).run Tryd.prog W := by kernel_rfl
  rw [e, if_neg h]
  exact zero_commitDeed W

theorem yes_abortDeed (W : World) (v : Value) : (Instr.typeAssert (.iface 77 v) 58 77 true).run Tryd.prog W = .ok (.tuple #[v, .bool true]) W := by kernel_rfl
theorem zero_abortDeed (W : World) : (do pure (Value.tuple #[← zeroValue 77, .bool false]) : Sem Value).run Tryd.prog W = .ok (.tuple #[.agg #[.int .i64 0, .int .i64 0], .bool false]) W := by kernel_rfl
theorem nil_abortDeed (W : World) : (Instr.typeAssert .nilIface 58 77 true).run Tryd.prog W = .ok (.tuple #[.agg #[.int .i64 0, .int .i64 0], .bool false]) W := by kernel_rfl
theorem no_abortDeed (W : World) (u : TypeId) (v : Value) (h : u ≠ 77) : (Instr.typeAssert (.iface u v) 58 77 true).run Tryd.prog W = .ok (.tuple #[.agg #[.int .i64 0, .int .i64 0], .bool false]) W := by
  have e : (Instr.typeAssert (.iface u v) 58 77 true).run Tryd.prog W = (if u = 77 then (pure (Value.tuple #[v, .bool true]) : Sem Value) else (do pure (Value.tuple #[← zeroValue 77, .bool false]))).run Tryd.prog W := by kernel_rfl
  rw [e, if_neg h]
  exact zero_abortDeed W

theorem yes_backDeed (W : World) (v : Value) : (Instr.typeAssert (.iface 79 v) 58 79 true).run Tryd.prog W = .ok (.tuple #[v, .bool true]) W := by kernel_rfl
theorem zero_backDeed (W : World) : (do pure (Value.tuple #[← zeroValue 79, .bool false]) : Sem Value).run Tryd.prog W = .ok (.tuple #[.agg #[.int .i64 0, .int .i64 0, .int .i64 0, .bool false, .int .i64 0, .slice none 0 0, .slice none 0 0, .int .i64 0], .bool false]) W := by kernel_rfl
theorem nil_backDeed (W : World) : (Instr.typeAssert .nilIface 58 79 true).run Tryd.prog W = .ok (.tuple #[.agg #[.int .i64 0, .int .i64 0, .int .i64 0, .bool false, .int .i64 0, .slice none 0 0, .slice none 0 0, .int .i64 0], .bool false]) W := by kernel_rfl
theorem no_backDeed (W : World) (u : TypeId) (v : Value) (h : u ≠ 79) : (Instr.typeAssert (.iface u v) 58 79 true).run Tryd.prog W = .ok (.tuple #[.agg #[.int .i64 0, .int .i64 0, .int .i64 0, .bool false, .int .i64 0, .slice none 0 0, .slice none 0 0, .int .i64 0], .bool false]) W := by
  have e : (Instr.typeAssert (.iface u v) 58 79 true).run Tryd.prog W = (if u = 79 then (pure (Value.tuple #[v, .bool true]) : Sem Value) else (do pure (Value.tuple #[← zeroValue 79, .bool false]))).run Tryd.prog W := by kernel_rfl
  rw [e, if_neg h]
  exact zero_backDeed W

theorem yes_endDeed (W : World) (v : Value) : (Instr.typeAssert (.iface 80 v) 58 80 true).run Tryd.prog W = .ok (.tuple #[v, .bool true]) W := by kernel_rfl
theorem zero_endDeed (W : World) : (do pure (Value.tuple #[← zeroValue 80, .bool false]) : Sem Value).run Tryd.prog W = .ok (.tuple #[.agg #[.int .i64 0, .int .i64 0], .bool false]) W := by kernel_rfl
theorem nil_endDeed (W : World) : (Instr.typeAssert .nilIface 58 80 true).run Tryd.prog W = .ok (.tuple #[.agg #[.int .i64 0, .int .i64 0], .bool false]) W := by kernel_rfl
theorem no_endDeed (W : World) (u : TypeId) (v : Value) (h : u ≠ 80) : (Instr.typeAssert (.iface u v) 58 80 true).run Tryd.prog W = .ok (.tuple #[.agg #[.int .i64 0, .int .i64 0], .bool false]) W := by
  have e : (Instr.typeAssert (.iface u v) 58 80 true).run Tryd.prog W = (if u = 80 then (pure (Value.tuple #[v, .bool true]) : Sem Value) else (do pure (Value.tuple #[← zeroValue 80, .bool false]))).run Tryd.prog W := by kernel_rfl
  rw [e, if_neg h]
  exact zero_endDeed W

theorem yes_checkDeed (W : World) (v : Value) : (Instr.typeAssert (.iface 82 v) 58 82 true).run Tryd.prog W = .ok (.tuple #[v, .bool true]) W := by kernel_rfl
theorem zero_checkDeed (W : World) : (do pure (Value.tuple #[← zeroValue 82, .bool false]) : Sem Value).run Tryd.prog W = .ok (.tuple #[.agg #[.slice none 0 0], .bool false]) W := by kernel_rfl
theorem nil_checkDeed (W : World) : (Instr.typeAssert .nilIface 58 82 true).run Tryd.prog W = .ok (.tuple #[.agg #[.slice none 0 0], .bool false]) W := by kernel_rfl
theorem no_checkDeed (W : World) (u : TypeId) (v : Value) (h : u ≠ 82) : (Instr.typeAssert (.iface u v) 58 82 true).run Tryd.prog W = .ok (.tuple #[.agg #[.slice none 0 0], .bool false]) W := by
  have e : (Instr.typeAssert (.iface u v) 58 82 true).run Tryd.prog W = (if u = 82 then (pure (Value.tuple #[v, .bool true]) : Sem Value) else (do pure (Value.tuple #[← zeroValue 82, .bool false]))).run Tryd.prog W := by kernel_rfl
  rw [e, if_neg h]
  exact zero_checkDeed W

/-- A transaction, and its record ahead. -/
def linkD (tx prev : Int) : List Value := [.int .i64 tx, .int .i64 prev]
def setD (tx prev oid : Int) (b a : SlotA) : List Value := [.int .i64 tx, .int .i64 prev, .int .i64 oid, .bool b.v.has, .int .i64 b.v.o.kind, .slice b.aI b.v.o.ints.length b.cI, .slice b.aR b.v.o.refs.length b.cR, .bool a.v.has, .int .i64 a.v.o.kind, .slice a.aI a.v.o.ints.length a.cI, .slice a.aR a.v.o.refs.length a.cR]
def backD (tx prev oid : Int) (a : SlotA) (next : Int) : List Value := [.int .i64 tx, .int .i64 prev, .int .i64 oid, .bool a.v.has, .int .i64 a.v.o.kind, .slice a.aI a.v.o.ints.length a.cI, .slice a.aR a.v.o.refs.length a.cR, .int .i64 next]
def checkD (ls : List LiveV) (aL : Option Addr) (cL : Nat) : List Value := [.slice aL ls.length cL]

def issetDeed (v : List Value) : Value := .iface 74 (.agg v.toArray)
def iscommitDeed (v : List Value) : Value := .iface 76 (.agg v.toArray)
def isabortDeed (v : List Value) : Value := .iface 77 (.agg v.toArray)
def isbackDeed (v : List Value) : Value := .iface 79 (.agg v.toArray)
def isendDeed (v : List Value) : Value := .iface 80 (.agg v.toArray)
def ischeckDeed (v : List Value) : Value := .iface 82 (.agg v.toArray)
/-- What the landed code makes of a record. -/
def deedV (r : RecA) : Value :=
  if r.kind == 1 then issetDeed (setD r.tx r.prev r.oid r.bf r.af)
  else if r.kind == 2 then iscommitDeed (linkD r.tx r.prev)
  else if r.kind == 3 then isabortDeed (linkD r.tx r.prev)
  else if r.kind == 4 then isbackDeed (backD r.tx r.prev r.oid r.af r.next)
  else if r.kind == 5 then isendDeed (linkD r.tx r.prev)
  else if r.kind == 6 then ischeckDeed (checkD r.txs r.aL r.cL)
  else .nilIface

set_option maxHeartbeats 2000000 in
set_option maxRecDepth 100000 in
theorem deedOf_any (r : RecA) (w : World) :
    Calls Tryd.prog 21 #[.agg r.cells.toArray] w fun e w' => e = .returned (deedV r) ∧ Below w.heap.size w w' := by
  obtain ⟨W, hW, b0, b1, hbW, hsW⟩ := boxes2 w r.cells [.int .i64 r.tx, .int .i64 r.prev] 42 72
  have HV : Hid (deedV r = if r.kind == 1 then issetDeed (setD r.tx r.prev r.oid r.bf r.af)
    else if r.kind == 2 then iscommitDeed (linkD r.tx r.prev)
    else if r.kind == 3 then isabortDeed (linkD r.tx r.prev)
    else if r.kind == 4 then isbackDeed (backD r.tx r.prev r.oid r.af r.next)
    else if r.kind == 5 then isendDeed (linkD r.tx r.prev)
    else if r.kind == 6 then ischeckDeed (checkD r.txs r.aL r.cL)
    else .nilIface) := rfl
  generalize deedV r = D at *
  simp only [RecA.cells] at *
  obtain ⟨x0, x1, x2, x3, x4, x5, x6, x7, x8, x9, x10, x11, x12, x13, x14⟩ := fifteen b0
  have y0 := b1.cell 0 _ rfl
  have y1 := b1.cell 1 _ rfl
  clear b0 b1 hsW
  cases k1 : (r.kind == 1) with
  | true =>
    have HR : Hid (D = issetDeed (setD r.tx r.prev r.oid r.bf r.af)) := by rw [Hid, HV.out]; simp [k1]
    clear HV
    go_enter Tryd.func21, Tryd.ntmps21
    go_wp2_with fail
    rw [hW.out]
    clear hW
    go_wp2
    go_ret
    exact ⟨by rw [HR.out]; rfl, hbW⟩
  | false =>
    cases k2 : (r.kind == 2) with
    | true =>
      have HR : Hid (D = iscommitDeed (linkD r.tx r.prev)) := by rw [Hid, HV.out]; simp [k1, k2]
      clear HV
      go_enter Tryd.func21, Tryd.ntmps21
      go_wp2_with fail
      rw [hW.out]
      clear hW
      go_wp2
      go_ret
      exact ⟨by rw [HR.out]; rfl, hbW⟩
    | false =>
      cases k3 : (r.kind == 3) with
      | true =>
        have HR : Hid (D = isabortDeed (linkD r.tx r.prev)) := by rw [Hid, HV.out]; simp [k1, k2, k3]
        clear HV
        go_enter Tryd.func21, Tryd.ntmps21
        go_wp2_with fail
        rw [hW.out]
        clear hW
        go_wp2
        go_ret
        exact ⟨by rw [HR.out]; rfl, hbW⟩
      | false =>
        cases k4 : (r.kind == 4) with
        | true =>
          have HR : Hid (D = isbackDeed (backD r.tx r.prev r.oid r.af r.next)) := by rw [Hid, HV.out]; simp [k1, k2, k3, k4]
          clear HV
          go_enter Tryd.func21, Tryd.ntmps21
          go_wp2_with fail
          rw [hW.out]
          clear hW
          go_wp2
          go_ret
          exact ⟨by rw [HR.out]; rfl, hbW⟩
        | false =>
          cases k5 : (r.kind == 5) with
          | true =>
            have HR : Hid (D = isendDeed (linkD r.tx r.prev)) := by rw [Hid, HV.out]; simp [k1, k2, k3, k4, k5]
            clear HV
            go_enter Tryd.func21, Tryd.ntmps21
            go_wp2_with fail
            rw [hW.out]
            clear hW
            go_wp2
            go_ret
            exact ⟨by rw [HR.out]; rfl, hbW⟩
          | false =>
            cases k6 : (r.kind == 6) with
            | true =>
              have HR : Hid (D = ischeckDeed (checkD r.txs r.aL r.cL)) := by rw [Hid, HV.out]; simp [k1, k2, k3, k4, k5, k6]
              clear HV
              go_enter Tryd.func21, Tryd.ntmps21
              go_wp2_with fail
              rw [hW.out]
              clear hW
              go_wp2
              go_ret
              exact ⟨by rw [HR.out]; rfl, hbW⟩
            | false =>
              have HR : Hid (D = .nilIface) := by rw [Hid, HV.out]; simp [k1, k2, k3, k4, k5, k6]
              clear HV
              go_enter Tryd.func21, Tryd.ntmps21
              go_wp2
              go_ret
              exact ⟨by rw [HR.out]; rfl, by rw [hW.out]; exact hbW⟩
end Go.Proofs.YtbpdocjkhmiimaaDoor
