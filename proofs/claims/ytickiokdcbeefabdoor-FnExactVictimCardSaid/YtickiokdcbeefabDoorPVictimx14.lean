/- Several texts in one, in their order. -/
import Derived.Test.YtickiokdcbeefabDoorPVictimx10
import Derived.Test.YtickiokdcbeefabDoorPVictimx13
import Derived.Test.YtickiokdcbeefabDoorPVictimx4
import Derived.Test.YtickiokdcbeefabDoorPVictimx5
/- Plain mathematics of SetSlot; results that are a page and a flag. -/
namespace Go.Proofs.YtickiokdcbeefabDoor
open Go.RowKit

def setOk (n : Int) (vs : List SlotV) (slot : Int) (s : SlotV) (lsn : Int) : Bool := okP n vs && (inB slot 0 3 && (slotB s && inB lsn n 1000000))
def setOf (n : Int) (vs : List SlotV) (slot : Int) (s : SlotV) (lsn : Int) : Int × List SlotV := if setOk n vs slot s lsn then (lsn, vs.set slot.toNat s) else (n, vs)
theorem setOf_no {n : Int} {vs : List SlotV} {slot : Int} {s : SlotV} {lsn : Int} (h : setOk n vs slot s lsn = false) : setOf n vs slot s lsn = (n, vs) := by unfold setOf; rw [if_neg (by rw [h]; decide)]
theorem setOf_ok {n : Int} {vs : List SlotV} {slot : Int} {s : SlotV} {lsn : Int} (h : setOk n vs slot s lsn = true) : setOf n vs slot s lsn = (lsn, vs.set slot.toNat s) := by unfold setOf; rw [if_pos h]
theorem setOk_p {n : Int} {vs : List SlotV} {slot : Int} {s : SlotV} {lsn : Int} (h : okP n vs = false) : setOk n vs slot s lsn = false := by simp [setOk, h]
theorem setOk_slot {n : Int} {vs : List SlotV} {slot : Int} {s : SlotV} {lsn : Int} (h : inB slot 0 3 = false) : setOk n vs slot s lsn = false := by simp [setOk, h]
theorem setOk_s {n : Int} {vs : List SlotV} {slot : Int} {s : SlotV} {lsn : Int} (h : slotB s = false) : setOk n vs slot s lsn = false := by simp [setOk, h]
theorem setOk_lsn {n : Int} {vs : List SlotV} {slot : Int} {s : SlotV} {lsn : Int} (h : inB lsn n 1000000 = false) : setOk n vs slot s lsn = false := by simp [setOk, h]
theorem setOk_all {n : Int} {vs : List SlotV} {slot : Int} {s : SlotV} {lsn : Int} (h1 : okP n vs = true) (h2 : inB slot 0 3 = true) (h3 : slotB s = true) (h4 : inB lsn n 1000000 = true) : setOk n vs slot s lsn = true := by simp [setOk, h1, h2, h3, h4]

theorem results_cell_flag {P : Program} {fn : Func} {s t : Nat} {ty : TypeId} {tmps : Array Value} {w : World} {v b : Value} {ad : Addr} (hf : fn.results = #[.cell s ty, .tmp t]) (ht : tmps[s]?.getD undef = .pointer (some ad)) (hl : (loadVar ty ad).run P w = .ok v w) (hb : tmps[t]?.getD undef = b) : (results fn tmps).run P w = .ok (.tuple #[v, b]) w := by
  unfold results
  rw [hf]
  simp [ht, asAddr, hl, hb]

/-- A whole value loaded where a guard stands ahead of it that lets it by. -/
theorem wpList_load_mid_if {ops : Array Oper} {rest : List Oper} {op : Oper} {a : Act} {w : World} {Q : Exit → Act → World → Prop} {P : Program} (hw : Region.wanted op (yielded ops a.tmps) = true) (ty : TypeId) (x : Operand) (ho : op.op = .load ty x)
    (b o : Nat) (hx : a.eval x = .pointer (some ⟨b, o, none⟩)) (cs : List Value) (d : TypeDesc) (hc : w.rangeAt b o cs)
    (hu : P.underlying ty = some d) (hd : d.isRow = true) (hi : (P.info? ty).map (·.size) = some cs.length)
    (h : wpList P ops Q rest (a.put op.dst (.agg cs.toArray)) w) : wpList P ops Q (op :: rest) a w :=
  wpList_step fun _ hK => by
    simp only [hw, if_true]
    exact wp_load_mid ty x ho b o hx cs d hc hu hd hi (hK _ _ h)

def zero17 : List Value := [.int .i64 0, .bool false, .int .i64 0, .slice none 0 0, .slice none 0 0, .bool false, .int .i64 0, .slice none 0 0, .slice none 0 0, .bool false, .int .i64 0, .slice none 0 0, .slice none 0 0, .bool false, .int .i64 0, .slice none 0 0, .slice none 0 0]

/-- A page at B is stored at C, which holds a page: what is there then, and what the result reads. -/
theorem page_out {w : World} {C : Nat} {T : TypeId} {d : TypeDesc} (q : PageA) (hq : q.ss.length = 4) (old : List Value) (ho : old.length = 17) (bC : Box w C old T) (hu : Tryd.prog.underlying T = some d) (hd : d.isRow = true) (hi : (Tryd.prog.info? T).map (·.size) = some 17) :
    ∃ WF, Hid (w.setCells C 0 q.cells = WF) ∧ Within C (C + 1) w WF ∧ WF.heap.size = w.heap.size ∧ Hid (w.there C 0 q.cells.toArray.size) ∧ Hid ((loadVar T ⟨C, 0, none⟩).run Tryd.prog WF = .ok (.agg q.cells.toArray) WF) ∧ Box WF C q.cells T := by
  have hl : q.cells.length = 17 := page_len q hq
  obtain ⟨WF, hWF, bF, hwF, hsF⟩ := range_fill [] old q.cells [] (by simpa using bC) (by rw [hl, ho])
  have bF' : Box WF C q.cells T := by simpa using bF
  refine ⟨WF, hWF, hwF, hsF, bC.there 0 _ (by rw [List.size_toArray, hl, ho]; omega), ?_, bF'⟩
  exact run_loadVar_mid (P := Tryd.prog) WF C 0 T q.cells d (Box.range [] q.cells [] (by simpa using bF')) hu hd (by rw [hi, hl])
end Go.Proofs.YtickiokdcbeefabDoor

/- The walks of laws.markSlotA4, markPage, heldSlotA4, heldPage. -/
namespace Go.Proofs.YtickiokdcbeefabDoor
open Go.RowKit

theorem fit_at {ss : List SlotA} (h : Fit ss) {k : Nat} (hk : k < ss.length) : (ss.getD k zeroS).v.o.ints.length ≤ 1099511627776 ∧ (ss.getD k zeroS).v.o.refs.length ≤ 1099511627776 := h _ (getD_mem hk)

set_option maxHeartbeats 1000000 in
set_option maxRecDepth 100000 in
theorem markSlotA4_touch (ss : List SlotA) (h4 : ss.length = 4) (lo hi : Nat) (k0 : Int) (w : World) (ho : OwnS w lo hi ss) (hl : Fit ss) (h0 : 0 ≤ k0) (hk : k0 ≤ 10995116277760) (hhi : hi ≤ w.heap.size) :
    Calls Tryd.prog 46 #[.agg (cellsS ss).toArray, .int .i64 k0] w fun e w' => e = .returned (.int .i64 (k0 + countS ss)) ∧ OwnS w' lo hi (markSs ss k0) ∧ Touch (ss.flatMap SlotA.blocks) w w' := by
  obtain ⟨W, hW, b0, hbW, hsW⟩ := boxes1 w (cellsS ss) 47
  have H4 : Hid (ss.length = 4) := h4
  have HB : Hid (w.heap.size ∉ ss.flatMap SlotA.blocks) := fun hh => by have := (ho.blocks_lt _ hh).2; omega
  clear hsW h4
  go_enter Tryd.func46, Tryd.ntmps46
  go_wp2_with fail
  rw [hW.out]
  clear hW
  go_loopw [1, 5] (fun kk i wr => ∃ (j : Nat) (c : Nat), i = .int .i64 j ∧ kk = .int .i64 (k0 + c) ∧ j ≤ 4 ∧ Hid (c = countS (ss.take j)) ∧ OwnS wr lo hi (markSs (ss.take j) k0 ++ ss.drop j) ∧ Touch (ss.flatMap SlotA.blocks) W wr)
    (fun _ i _ => 4 - (intOf i).toNat)
  case atStart => exact ⟨0, 0, rfl, by simp, by omega, rfl, by simpa [markSs] using ho.below hbW, Touch.refl _ _⟩
  case round =>
    obtain ⟨j, c, rfl, rfl, hj, hcj, hown, htr⟩ := hrel
    have b0r := b0.touch htr HB.out
    have hc0 : c ≤ 8796093022208 := by
      have h1 := countS_le (ss.take j) 1099511627776 (fun s hs => hl s (List.mem_of_mem_take hs))
      rw [List.length_take] at h1
      have h2 : min j ss.length * (2 * 1099511627776) ≤ 4 * (2 * 1099511627776) := Nat.mul_le_mul_right _ (by omega)
      rw [hcj.out]; omega
    by_cases hlt : j < 4
    · have hkl : j < ss.length := by rw [H4.out]; exact hlt
      obtain ⟨c0, c1, c2, c3, _⟩ := b0r.slot j hkl
      obtain ⟨hd, htk⟩ := take_split ss j hkl
      have hlk := fit_at hl hkl
      rw [hd] at hown
      have HC : Hid (countS (ss.take (j + 1)) = countS (ss.take j) + (ss.getD j zeroS).count) := by rw [Hid, htk, countS_snoc]
      have HM : Hid (markSs (ss.take (j + 1)) k0 ++ ss.drop (j + 1) = markSs (ss.take j) k0 ++ (ss.getD j zeroS).mark (k0 + countS (ss.take j)) :: ss.drop (j + 1)) := by rw [Hid, htk, markSs_snoc]; simp
      have HS : Hid (∀ k ∈ (ss.getD j zeroS).blocks, k ∈ ss.flatMap SlotA.blocks) := fun k hk => List.mem_flatMap.2 ⟨_, getD_mem hkl, hk⟩
      have hos : (ss.getD j zeroS).own wr lo hi := hown.each _ (by simp)
      clear hd htk
      generalize ss.getD j zeroS = s at *
      have C := markSlot_touch s lo hi (k0 + c) wr hos (by omega) hlk.1 hlk.2 (by omega)
      simp only [SlotA.cells] at C
      have hi0 : (0 : Int) ≤ (j : Int) := by omega
      have hi4 : (j : Int) < 4 := by omega
      go_wp2_with fail
      refine C.mono ?_
      clear C c0 c1 c2 c3
      rintro e w1 ⟨rfl, ho1, ht1⟩
      have HO : OwnS w1 lo hi (markSs (ss.take (j + 1)) k0 ++ ss.drop (j + 1)) := by
        rw [HM.out, ← hcj.out]
        exact hown.replace ht1 ho1 (mark_blocks _ _)
      have HT : Touch (ss.flatMap SlotA.blocks) W w1 := htr.trans (ht1.mono HS.out)
      have HCC : Hid (c + s.count = countS (ss.take (j + 1))) := by rw [Hid, HC.out, hcj.out]
      clear hown ho1 ht1 hos
      go_wp2_with fail
      go_roundw
      case rel => exact ⟨j + 1, c + s.count, by go_num, by congr 1; omega, by omega, HCC, HO, HT⟩
      case measure => simp [intOf]; omega
    · obtain rfl : j = 4 := by omega
      have hkk : ¬ ((4 : Nat) : Int) < 4 := by omega
      have HE : Hid (ss.take 4 = ss ∧ ss.drop 4 = []) := ⟨List.take_of_length_le (by rw [H4.out]; omega), List.drop_eq_nil_of_le (by rw [H4.out]; omega)⟩
      go_wp2
      go_ret
      refine ⟨ret_int (by rw [hcj.out, HE.out.1]), ?_, (Touch.of_below hbW).trans htr⟩
      rw [HE.out.1, HE.out.2, List.append_nil] at hown
      exact hown

set_option maxHeartbeats 1000000 in
set_option maxRecDepth 100000 in
theorem heldSlotA4_any (ss : List SlotA) (h4 : ss.length = 4) (lo hi : Nat) (k0 : Int) (w : World) (ho : OwnS w lo hi (markSs ss k0)) (hl : Fit ss) (h0 : 0 ≤ k0) (hk : k0 ≤ 10995116277760) :
    Calls Tryd.prog 60 #[.agg (cellsS ss).toArray, .int .i64 k0] w fun e w' => e = .returned (.int .i64 (k0 + countS ss)) ∧ Below w.heap.size w w' := by
  obtain ⟨W, hW, b0, hbW, hsW⟩ := boxes1 w (cellsS ss) 47
  have H4 : Hid (ss.length = 4) := h4
  clear hsW h4
  go_enter Tryd.func60, Tryd.ntmps60
  go_wp2_with fail
  rw [hW.out]
  clear hW
  go_loopw [1, 5] (fun kk i wr => ∃ (j : Nat) (c : Nat), i = .int .i64 j ∧ kk = .int .i64 (k0 + c) ∧ j ≤ 4 ∧ Hid (c = countS (ss.take j)) ∧ Below W.heap.size W wr)
    (fun _ i _ => 4 - (intOf i).toNat)
  case atStart => exact ⟨0, 0, rfl, by simp, by omega, rfl, Below.refl _ _⟩
  case round =>
    obtain ⟨j, c, rfl, rfl, hj, hcj, hbl⟩ := hrel
    have b0r := b0.below hbl b0.lt
    have hbT : Below w.heap.size w wr := hbW.trans (hbl.mono hbW.size)
    have hc0 : c ≤ 8796093022208 := by
      have h1 := countS_le (ss.take j) 1099511627776 (fun s hs => hl s (List.mem_of_mem_take hs))
      rw [List.length_take] at h1
      have h2 : min j ss.length * (2 * 1099511627776) ≤ 4 * (2 * 1099511627776) := Nat.mul_le_mul_right _ (by omega)
      rw [hcj.out]; omega
    by_cases hlt : j < 4
    · have hkl : j < ss.length := by rw [H4.out]; exact hlt
      obtain ⟨c0, c1, c2, c3, _⟩ := b0r.slot j hkl
      obtain ⟨hd, htk⟩ := take_split ss j hkl
      have hlk := fit_at hl hkl
      have HC : Hid (countS (ss.take (j + 1)) = countS (ss.take j) + (ss.getD j zeroS).count) := by rw [Hid, htk, countS_snoc]
      have hos : ((ss.getD j zeroS).mark (k0 + c)).own wr lo hi := by
        have := ho.each _ (markSs_at ss k0 j hkl)
        rw [← hcj.out] at this
        exact OwnO.below this hbT
      clear hd htk
      generalize ss.getD j zeroS = s at *
      have C := heldSlot_any s lo hi (k0 + c) wr hos (by omega) hlk.1 hlk.2 (by omega)
      simp only [SlotA.cells] at C
      have hi0 : (0 : Int) ≤ (j : Int) := by omega
      have hi4 : (j : Int) < 4 := by omega
      go_wp2_with fail
      refine C.mono ?_
      clear C c0 c1 c2 c3
      rintro e w1 ⟨rfl, hb1⟩
      have hnn : ¬ (k0 + (c : Int) + (s.count : Int)) < 0 := by omega
      have HCC : Hid (c + s.count = countS (ss.take (j + 1))) := by rw [Hid, HC.out, hcj.out]
      clear hos
      go_wp2_with fail
      go_roundw
      case rel => exact ⟨j + 1, c + s.count, by go_num, by congr 1; omega, by omega, HCC, hbl.trans (hb1.mono hbl.size)⟩
      case measure => simp [intOf]; omega
    · obtain rfl : j = 4 := by omega
      have hkk : ¬ ((4 : Nat) : Int) < 4 := by omega
      have HE : Hid (ss.take 4 = ss) := List.take_of_length_le (by rw [H4.out]; omega)
      go_wp2
      go_ret
      exact ⟨ret_int (by rw [hcj.out, HE.out]), hbT⟩

set_option maxHeartbeats 400000 in
set_option maxRecDepth 100000 in
theorem markPage_touch (p : PageA) (h4 : p.ss.length = 4) (lo hi : Nat) (k0 : Int) (w : World) (ho : OwnS w lo hi p.ss) (hl : Fit p.ss) (h0 : 0 ≤ k0) (hk : k0 ≤ 10995116277760) (hhi : hi ≤ w.heap.size) :
    Calls Tryd.prog 19 #[.agg p.cells.toArray, .int .i64 k0] w fun e w' => e = .returned (.int .i64 (k0 + countS p.ss)) ∧ OwnS w' lo hi (markSs p.ss k0) ∧ Touch (p.ss.flatMap SlotA.blocks) w w' := by
  obtain ⟨n, ss⟩ := p
  simp only [PageA.cells] at *
  obtain ⟨W, hW, b0, hbW, hsW⟩ := boxes1 w (.int .i64 n :: cellsS ss) 49
  have hrg0 : W.rangeAt w.heap.size 1 (cellsS ss) := Box.range [.int .i64 n] (cellsS ss) [] (by simpa using b0)
  have hi0 : (Tryd.prog.info? 47).map (·.size) = some (cellsS ss).length := by rw [cellsS_len, h4]; kernel_rfl
  have hs0 := hbW.size
  go_enter Tryd.func19, Tryd.ntmps19
  go_wp2_with (first | (guard_target = wpList _ _ _ (Oper.mk (some 6) _ _ _ _ _ :: _) _ _; refine wpList_load_mid rfl 47 (.tmp 5) rfl w.heap.size 1 rfl (cellsS ss) _ (by rw [hW.out]; exact hrg0) Tryd.underlying47 rfl hi0 ?_) | fail)
  rw [hW.out]
  clear hW hrg0 hi0 hsW
  refine (markSlotA4_touch ss h4 lo hi k0 W (ho.below hbW) hl h0 hk (by omega)).mono ?_
  rintro e w1 ⟨rfl, ho1, ht1⟩
  go_wp2
  go_ret
  exact ⟨rfl, ho1, (Touch.of_below hbW).trans ht1⟩

set_option maxHeartbeats 400000 in
set_option maxRecDepth 100000 in
theorem heldPage_any (p : PageA) (h4 : p.ss.length = 4) (lo hi : Nat) (k0 : Int) (w : World) (ho : OwnS w lo hi (markSs p.ss k0)) (hl : Fit p.ss) (h0 : 0 ≤ k0) (hk : k0 ≤ 10995116277760) :
    Calls Tryd.prog 47 #[.agg p.cells.toArray, .int .i64 k0] w fun e w' => e = .returned (.int .i64 (k0 + countS p.ss)) ∧ Below w.heap.size w w' := by
  obtain ⟨n, ss⟩ := p
  simp only [PageA.cells] at *
  obtain ⟨W, hW, b0, hbW, hsW⟩ := boxes1 w (.int .i64 n :: cellsS ss) 49
  have hrg0 : W.rangeAt w.heap.size 1 (cellsS ss) := Box.range [.int .i64 n] (cellsS ss) [] (by simpa using b0)
  have hi0 : (Tryd.prog.info? 47).map (·.size) = some (cellsS ss).length := by rw [cellsS_len, h4]; kernel_rfl
  go_enter Tryd.func47, Tryd.ntmps47
  go_wp2_with (first | (guard_target = wpList _ _ _ (Oper.mk (some 6) _ _ _ _ _ :: _) _ _; refine wpList_load_mid rfl 47 (.tmp 5) rfl w.heap.size 1 rfl (cellsS ss) _ (by rw [hW.out]; exact hrg0) Tryd.underlying47 rfl hi0 ?_) | fail)
  rw [hW.out]
  clear hW hrg0 hi0 hsW
  refine (heldSlotA4_any ss h4 lo hi k0 W (ho.below hbW) hl h0 hk).mono ?_
  rintro e w1 ⟨rfl, hb1⟩
  have hnn : ¬ (k0 + (countS ss : Int)) < 0 := by omega
  go_wp2
  go_ret
  exact ⟨rfl, hbW.trans (hb1.mono hbW.size)⟩
end Go.Proofs.YtickiokdcbeefabDoor
