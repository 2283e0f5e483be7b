/- Several texts in one, in their order. -/
import Derived.Test.YtoboickdkednkaaDoorPFnChangedx16
import Derived.Test.YtoboickdkednkaaDoorPFnChangedx17
import Derived.Test.YtoboickdkednkaaDoorPFnChangedx6
import Derived.Deep.RegionHeld3
/- The walks of spec.Change and impl.Change. -/
namespace Go.Proofs.YtoboickdkednkaaDoor
open Go.RowKit

/-- What Change answers. -/
def ChangeAns (p : PoolA) (no lsn : Int) (ss : List SlotV) (w : World) (e : Ending) (w' : World) : Prop :=
  ∃ (t : PoolA) (b : Bool), e = .returned (.tuple #[.agg t.cells.toArray, .bool b]) ∧ Hid (changeOf6 p.v no lsn ss = (t.v, b)) ∧ t.own w' w.heap.size w'.heap.size ∧ Below w.heap.size w w'
theorem change_no {p : PoolV} {no lsn : Int} {ss : List SlotV} (h : mayChange p no lsn ss = false) : changeOf6 p no lsn ss = (p, false) := by rw [changeOf6, if_neg (by rw [h]; decide)]
theorem change_yes {p : PoolV} {no lsn : Int} {ss : List SlotV} {k : Nat} (h : mayChange p no lsn ss = true) (hk : seatedOf p.seats no = k) : changeOf6 p no lsn ss = (setSeatV p k (fun _ => ⟨no, lsn, ss, true, true⟩), true) := by
  rw [changeOf6, if_pos h, hk]
  rfl
theorem may_pool {p : PoolV} {no lsn : Int} {ss : List SlotV} (h : okPool p = false) : mayChange p no lsn ss = false := by rw [mayChange, h]; rfl
theorem may_none {p : PoolV} {no lsn : Int} {ss : List SlotV} (h : seatedOf p.seats no = -1) : mayChange p no lsn ss = false := by
  rw [mayChange, h]
  simp
theorem may_page {p : PoolV} {no lsn : Int} {ss : List SlotV} (h : okP lsn ss = false) : mayChange p no lsn ss = false := by
  rw [mayChange, h]
  simp
theorem may_lsn {p : PoolA} {no lsn : Int} {ss : List SlotV} {k : Nat} (hk : seatedOf p.v.seats no = k) (h : lsn < (p.seats.getD k zeroSt).lsn) : mayChange p.v no lsn ss = false := by
  have e : (p.v.seats.getD (seatedOf p.v.seats no).toNat zeroStV).lsn = (p.seats.getD k zeroSt).lsn := by rw [hk, PoolA.v, seatV_at]; rfl
  rw [mayChange, e, decide_eq_false (by omega : ¬ (p.seats.getD k zeroSt).lsn ≤ lsn)]
  simp
theorem may_all {p : PoolA} {no lsn : Int} {ss : List SlotV} {k : Nat} (h1 : okPool p.v = true) (hk : seatedOf p.v.seats no = k) (h2 : okP lsn ss = true) (h : ¬ lsn < (p.seats.getD k zeroSt).lsn) : mayChange p.v no lsn ss = true := by
  have e : (p.v.seats.getD (seatedOf p.v.seats no).toNat zeroStV).lsn = (p.seats.getD k zeroSt).lsn := by rw [hk, PoolA.v, seatV_at]; rfl
  rw [mayChange, e, decide_eq_true (by omega : (p.seats.getD k zeroSt).lsn ≤ lsn), h1, h2, hk]
  simp
theorem run_nextP {P : Program} {w w' : World} {m : Sem Value} {v : Value} (h : m.run P w = .ok v w') : (do let r ← m; pure (Next.value r) : Sem Next).run P w = .ok (.value v) w' := by simp only [Sem.run_bind, h, Result.andThen_ok, Sem.run_pure]
set_option maxHeartbeats 1000000 in
set_option maxRecDepth 100000 in
theorem run_buildSt (w : World) (no lsn : Int) (a b c d : SlotA) : (Instr.build 38 #[(0, Value.int .i64 no), (1, Value.agg (PageA.cells ⟨lsn, [a, b, c, d]⟩).toArray), (2, Value.bool true), (3, Value.bool true)]).run Tryd.prog w = .ok (.agg (SeatA.cells ⟨no, lsn, a, b, c, d, true, true⟩).toArray) w := run_build w _ _ _ (by kernel_rfl)

set_option maxHeartbeats 8000000 in
set_option maxRecDepth 100000 in
theorem specChange_any (p : PoolA) (no : Int) (pg : PageA) (h4 : pg.ss.length = 4) (w : World) (hr : p.reads w) (hl : p.short 1048576) (hrp : ReadsS w pg.ss) (hlp : Fit pg.ss) :
    Calls Tryd.prog 16 #[.agg p.cells.toArray, .int .i64 no, .agg pg.cells.toArray] w fun e w' => ChangeAns p no pg.lsn (pg.ss.map (·.v)) w e w' := by
  obtain ⟨W, hW, b3, b5, b6, hbW, hsW⟩ := boxes3 w [.slice p.a p.seats.length p.c, .int .i64 p.hand] pg.cells [.slice none 0 0, .int .i64 0] 26 34 26
  have hs0 : w.heap.size + 1 + 1 < W.heap.size := by omega
  have p0 := b3.cell 0 _ rfl
  have p1 := b3.cell 1 _ rfl
  have C := l6Copy_any p W (PoolA.reads.below hr hbW) hl
  have HI : Hid ((Tryd.prog.info? 34).map (·.size) = some pg.cells.length) := Tryd.infoPg pg h4
  simp only [PoolA.cells] at *
  clear hsW
  go_enter Tryd.func16, Tryd.ntmps16
  go_upto_region 1 with fail
  rw [hW.out]
  clear hW
  go_wp2_with fail
  refine C.mono ?_
  clear C p0 p1
  rintro e w1 ⟨t, rfl, hv, ho, hb1⟩
  have hs1 := hb1.size
  have b31 := b3.below hb1 b3.lt
  have b51 := b5.below hb1 b5.lt
  have b61 := b6.below hb1 b6.lt
  obtain ⟨W2, hW2, b8, hb2, hs2⟩ := boxes1 w1 [.slice t.a t.seats.length t.c, .int .i64 t.hand] 26
  have b32 := b31.below hb2 b31.lt
  have b52 := b51.below hb2 b51.lt
  have b62 := b61.below hb2 b61.lt
  have o2 := PoolA.own.below ho hb2
  have n2 : Below w.heap.size w W2 := (hbW.trans (hb1.mono (by omega))).trans (hb2.mono (by omega))
  have hs2' := b8.lt
  clear b3 b5 b6 b31 b51 b61 ho hb1 hb2 hs2 hbW
  go_upto_region 2 with fail
  rw [hW2.out]
  clear hW2
  have p0 := b32.cell 0 _ rfl
  have p1 := b32.cell 1 _ rfl
  have C := specSeatedP_any p no W2 (PoolA.reads.below hr n2) (PoolA.short_wide hl)
  simp only [PoolA.cells] at C
  have HV : Hid (t.v = p.v) := hv.out
  clear hv
  go_wp2_with fail
  refine C.mono ?_
  clear C p0 p1
  rintro e w3 ⟨rfl, hb3⟩
  have hs3 := hb3.size
  have b33 := b32.below hb3 b32.lt
  have b53 := b52.below hb3 b52.lt
  have b63 := b62.below hb3 b62.lt
  have b83 := b8.below hb3 b8.lt
  have o3 := PoolA.own.below o2 hb3
  have n3 : Below w.heap.size w w3 := n2.trans (hb3.mono n2.size)
  have HRP : Hid (∀ u, Below w3.heap.size w3 u → PoolA.reads u p) := fun u hu => PoolA.reads.below hr (n3.trans (hu.mono n3.size))
  have HRG : Hid (∀ u, Below w3.heap.size w3 u → ReadsS u pg.ss) := fun u hu => hrp.below (n3.trans (hu.mono n3.size))
  have D3 : Below w3.heap.size w3 w3.drew := (Below.refl _ _).drew
  clear b32 b52 b62 b8 o2 n2 hb3
  rcases seated_cases p.v.seats no with ⟨k, hk, _, _, hsk⟩ | ⟨_, hsk⟩
  case inr =>
    have HNO : Hid (changeOf6 p.v no pg.lsn (pg.ss.map (·.v)) = (t.v, false)) := by rw [Hid, change_no (may_none hsk), HV.out]
    rw [hsk]
    clear hsk HV
    go_upto_region 3 with fail
    cases HOKP : okPool p.v with
    | false =>
      have HSS : Hid (∀ u, Below w3.heap.size w3 u → ((u.cell? ⟨w.heap.size, 0, none⟩ = some (.slice p.a p.seats.length p.c) ∧ u.cell? ⟨w.heap.size, 1, none⟩ = some (.int .i64 p.hand)) ∧ u.rangeAt (w.heap.size + 1) 0 pg.cells) ∧ True) := fun u hu => ⟨⟨⟨(b33.below hu b33.lt).cell 0 _ rfl, (b33.below hu b33.lt).cell 1 _ rfl⟩, Box.range [] pg.cells [] (by simpa using b53.below hu b53.lt)⟩, trivial⟩
      refine wp_region_held_drew (S := fun u => ((u.cell? ⟨w.heap.size, 0, none⟩ = some (.slice p.a p.seats.length p.c) ∧ u.cell? ⟨w.heap.size, 1, none⟩ = some (.int .i64 p.hand)) ∧ u.rangeAt (w.heap.size + 1) 0 pg.cells) ∧ True) (by kernel_rfl) ?_ (fun hHeld => ?_)
      · exact HSS.out _ D3
      refine wpAnyH_take (i := 0) (v := .agg #[.slice p.a p.seats.length p.c, .int .i64 p.hand]) rfl (by kernel_rfl) (by kernel_rfl) (by kernel_rfl) (fun _ _ _ h => h) (Or.inl ⟨by rfl, ?_⟩) hHeld ?_
      · intro w' hSw
        have hx0 := hSw.1.1.1
        have hx1 := hSw.1.1.2
        go_simp <;> rfl
      try simp only [Act.put, List.getElem_toArray, List.getElem_cons_zero, List.setIfInBounds_toArray, List.set_cons_zero, List.set_cons_succ]
      refine wpAnyH_ready (rs := [1]) (by kernel_rfl) (by simp) ?_
      refine AllReadyH.cons rfl (fun K hK => ?_) AllReadyH.nil
      go_simp
      have CP := specPoolOk_any p _ (HRP.out _ D3) (PoolA.short_wide hl)
      rw [HOKP] at CP
      simp only [PoolA.cells] at CP
      refine CP.mono ?_
      clear CP
      rintro e u1 ⟨rfl, hbu1⟩
      have E1 : Below w3.heap.size w3 u1 := D3.trans (hbu1.mono D3.size)
      refine hK.out _ _ (HSS.out _ E1) (fun hHeld => ?_)
      clear hK K
      try simp only [Act.put, List.getElem_toArray, List.getElem_cons_zero, List.getElem_cons_succ, List.setIfInBounds_toArray, List.set_cons_zero, List.set_cons_succ]
      refine wpAnyH_take (i := 2) (v := .bool true) rfl (by kernel_rfl) (by kernel_rfl) (by kernel_rfl) (fun _ _ _ h => h) (Or.inl ⟨by rfl, ?_⟩) hHeld ?_
      · intro w' hSw
        go_simp <;> rfl
      try simp only [Act.put, List.getElem_toArray, List.getElem_cons_zero, List.getElem_cons_succ, List.setIfInBounds_toArray, List.set_cons_zero, List.set_cons_succ]
      refine wpAnyH_take (i := 3) (v := .bool true) rfl (by kernel_rfl) (by kernel_rfl) (by kernel_rfl) (fun _ _ _ h => h) (Or.inl ⟨by rfl, ?_⟩) hHeld ?_
      · intro w' hSw
        go_simp <;> rfl
      try simp only [Act.put, List.getElem_toArray, List.getElem_cons_zero, List.getElem_cons_succ, List.setIfInBounds_toArray, List.set_cons_zero, List.set_cons_succ]
      refine wpAnyH_take (i := 4) (v := undef) rfl (by kernel_rfl) (by kernel_rfl) (by kernel_rfl) (fun _ _ _ h => h) (Or.inr ⟨by rfl, rfl⟩) hHeld ?_
      try simp only [Act.put, List.getElem_toArray, List.getElem_cons_zero, List.getElem_cons_succ, List.setIfInBounds_toArray, List.set_cons_zero, List.set_cons_succ]
      refine wpAnyH_take (i := 5) (v := undef) rfl (by kernel_rfl) (by kernel_rfl) (by kernel_rfl) (fun _ _ _ h => h) (Or.inr ⟨by rfl, rfl⟩) hHeld ?_
      try simp only [Act.put, List.getElem_toArray, List.getElem_cons_zero, List.getElem_cons_succ, List.setIfInBounds_toArray, List.set_cons_zero, List.set_cons_succ]
      refine wpAnyH_take (i := 6) (v := .bool true) rfl (by kernel_rfl) (by kernel_rfl) (by kernel_rfl) (fun _ _ _ h => h) (Or.inl ⟨by rfl, ?_⟩) hHeld ?_
      · intro w' hSw
        go_simp <;> rfl
      try simp only [Act.put, List.getElem_toArray, List.getElem_cons_zero, List.getElem_cons_succ, List.setIfInBounds_toArray, List.set_cons_zero, List.set_cons_succ]
      refine wpAnyH_take (i := 7) (v := .bool true) rfl (by kernel_rfl) (by kernel_rfl) (by kernel_rfl) (fun _ _ _ h => h) (Or.inl ⟨by rfl, ?_⟩) hHeld ?_
      · intro w' hSw
        go_simp <;> rfl
      try simp only [Act.put, List.getElem_toArray, List.getElem_cons_zero, List.getElem_cons_succ, List.setIfInBounds_toArray, List.set_cons_zero, List.set_cons_succ]
      refine wpAnyH_take (i := 8) (v := undef) rfl (by kernel_rfl) (by kernel_rfl) (by kernel_rfl) (fun _ _ _ h => h) (Or.inr ⟨by rfl, rfl⟩) hHeld ?_
      try simp only [Act.put, List.getElem_toArray, List.getElem_cons_zero, List.getElem_cons_succ, List.setIfInBounds_toArray, List.set_cons_zero, List.set_cons_succ]
      refine wpAnyH_take (i := 9) (v := undef) rfl (by kernel_rfl) (by kernel_rfl) (by kernel_rfl) (fun _ _ _ h => h) (Or.inr ⟨by rfl, rfl⟩) hHeld ?_
      try simp only [Act.put, List.getElem_toArray, List.getElem_cons_zero, List.getElem_cons_succ, List.setIfInBounds_toArray, List.set_cons_zero, List.set_cons_succ]
      refine wpAnyH_take (i := 10) (v := undef) rfl (by kernel_rfl) (by kernel_rfl) (by kernel_rfl) (fun _ _ _ h => h) (Or.inr ⟨by rfl, rfl⟩) hHeld ?_
      try simp only [Act.put, List.getElem_toArray, List.getElem_cons_zero, List.getElem_cons_succ, List.setIfInBounds_toArray, List.set_cons_zero, List.set_cons_succ]
      refine wpAnyH_take (i := 11) (v := .bool true) rfl (by kernel_rfl) (by kernel_rfl) (by kernel_rfl) (fun _ _ _ h => h) (Or.inl ⟨by rfl, ?_⟩) hHeld ?_
      · intro w' hSw
        go_simp <;> rfl
      try simp only [Act.put, List.getElem_toArray, List.getElem_cons_zero, List.getElem_cons_succ, List.setIfInBounds_toArray, List.set_cons_zero, List.set_cons_succ]
      refine wpAnyH_take (i := 12) (v := .bool true) rfl (by kernel_rfl) (by kernel_rfl) (by kernel_rfl) (fun _ _ _ h => h) (Or.inl ⟨by rfl, ?_⟩) hHeld ?_
      · intro w' hSw
        go_simp <;> rfl
      try simp only [Act.put, List.getElem_toArray, List.getElem_cons_zero, List.getElem_cons_succ, List.setIfInBounds_toArray, List.set_cons_zero, List.set_cons_succ]
      refine wpAnyH_take (i := 13) (v := undef) rfl (by kernel_rfl) (by kernel_rfl) (by kernel_rfl) (fun _ _ _ h => h) (Or.inr ⟨by rfl, rfl⟩) hHeld ?_
      try simp only [Act.put, List.getElem_toArray, List.getElem_cons_zero, List.getElem_cons_succ, List.setIfInBounds_toArray, List.set_cons_zero, List.set_cons_succ]
      refine wpAnyH_take (i := 14) (v := undef) rfl (by kernel_rfl) (by kernel_rfl) (by kernel_rfl) (fun _ _ _ h => h) (Or.inr ⟨by rfl, rfl⟩) hHeld ?_
      try simp only [Act.put, List.getElem_toArray, List.getElem_cons_zero, List.getElem_cons_succ, List.setIfInBounds_toArray, List.set_cons_zero, List.set_cons_succ]
      refine wpAnyH_take (i := 15) (v := undef) rfl (by kernel_rfl) (by kernel_rfl) (by kernel_rfl) (fun _ _ _ h => h) (Or.inr ⟨by rfl, rfl⟩) hHeld ?_
      try simp only [Act.put, List.getElem_toArray, List.getElem_cons_zero, List.getElem_cons_succ, List.setIfInBounds_toArray, List.set_cons_zero, List.set_cons_succ]
      refine wpAnyH_take (i := 16) (v := undef) rfl (by kernel_rfl) (by kernel_rfl) (by kernel_rfl) (fun _ _ _ h => h) (Or.inr ⟨by rfl, rfl⟩) hHeld ?_
      try simp only [Act.put, List.getElem_toArray, List.getElem_cons_zero, List.getElem_cons_succ, List.setIfInBounds_toArray, List.set_cons_zero, List.set_cons_succ]
      refine wpAnyH_take (i := 17) (v := undef) rfl (by kernel_rfl) (by kernel_rfl) (by kernel_rfl) (fun _ _ _ h => h) (Or.inr ⟨by rfl, rfl⟩) hHeld ?_
      try simp only [Act.put, List.getElem_toArray, List.getElem_cons_zero, List.getElem_cons_succ, List.setIfInBounds_toArray, List.set_cons_zero, List.set_cons_succ]
      refine wpAnyH_take (i := 18) (v := undef) rfl (by kernel_rfl) (by kernel_rfl) (by kernel_rfl) (fun _ _ _ h => h) (Or.inr ⟨by rfl, rfl⟩) hHeld ?_
      try simp only [Act.put, List.getElem_toArray, List.getElem_cons_zero, List.getElem_cons_succ, List.setIfInBounds_toArray, List.set_cons_zero, List.set_cons_succ]
      refine wpAnyH_take (i := 19) (v := undef) rfl (by kernel_rfl) (by kernel_rfl) (by kernel_rfl) (fun _ _ _ h => h) (Or.inr ⟨by rfl, rfl⟩) hHeld ?_
      try simp only [Act.put, List.getElem_toArray, List.getElem_cons_zero, List.getElem_cons_succ, List.setIfInBounds_toArray, List.set_cons_zero, List.set_cons_succ]
      refine wpAnyH_take (i := 20) (v := undef) rfl (by kernel_rfl) (by kernel_rfl) (by kernel_rfl) (fun _ _ _ h => h) (Or.inr ⟨by rfl, rfl⟩) hHeld ?_
      try simp only [Act.put, List.getElem_toArray, List.getElem_cons_zero, List.getElem_cons_succ, List.setIfInBounds_toArray, List.set_cons_zero, List.set_cons_succ]
      refine wpAnyH_take (i := 21) (v := undef) rfl (by kernel_rfl) (by kernel_rfl) (by kernel_rfl) (fun _ _ _ h => h) (Or.inr ⟨by rfl, rfl⟩) hHeld ?_
      try simp only [Act.put, List.getElem_toArray, List.getElem_cons_zero, List.getElem_cons_succ, List.setIfInBounds_toArray, List.set_cons_zero, List.set_cons_succ]
      refine wpAnyH_take (i := 22) (v := undef) rfl (by kernel_rfl) (by kernel_rfl) (by kernel_rfl) (fun _ _ _ h => h) (Or.inr ⟨by rfl, rfl⟩) hHeld ?_
      try simp only [Act.put, List.getElem_toArray, List.getElem_cons_zero, List.getElem_cons_succ, List.setIfInBounds_toArray, List.set_cons_zero, List.set_cons_succ]
      refine wpAnyH_take (i := 23) (v := .bool true) rfl (by kernel_rfl) (by kernel_rfl) (by kernel_rfl) (fun _ _ _ h => h) (Or.inl ⟨by rfl, ?_⟩) hHeld ?_
      · intro w' hSw
        go_simp <;> rfl
      try simp only [Act.put, List.getElem_toArray, List.getElem_cons_zero, List.getElem_cons_succ, List.setIfInBounds_toArray, List.set_cons_zero, List.set_cons_succ]
      refine wpAnyH_done (by kernel_rfl) ?_ _
      clear hHeld
      have b6F := b63.below E1 b63.lt
      have b8F := b83.below E1 b83.lt
      have oF0 := PoolA.own.below o3 E1
      have nF : Below w.heap.size w u1 := n3.trans (E1.mono n3.size)
      have sF := E1.size
      have e0 := b8F.cell 0 _ rfl
      have e1 := b8F.cell 1 _ rfl
      have m0 := b6F.cell 0 _ rfl
      have m1 := b6F.cell 1 _ rfl
      have mf0 := b6F.frozen 0
      have mf1 := b6F.frozen 1
      obtain ⟨WF, hWF, bF, hwF, hsF⟩ := box2_fill b6F (.slice t.a t.seats.length t.c) (.int .i64 t.hand)
      have q0 := bF.cell 0 _ rfl
      have q1 := bF.cell 1 _ rfl
      have hoF := (PoolA.own.within oF0 hwF (.inr (by omega))).widen (show w.heap.size ≤ W.heap.size by omega) (show w1.heap.size ≤ WF.heap.size by omega) (Nat.le_refl _)
      have hbF : Below w.heap.size w WF := nF.trans (hwF.below (by omega) (by omega))
      clear hwF hsF bF oF0 b6F b8F HSS
      go_wp2_with fail
      rw [hWF.out]
      exact bodyPost_ret (v := .tuple #[.agg #[.slice t.a t.seats.length t.c, .int .i64 t.hand], .bool false]) (by simp [results, Tryd.results16, go_sem, q0, q1]) rfl ⟨t, false, rfl, HNO, hoF, hbF⟩
    | true =>
      have HSS : Hid (∀ u, Below w3.heap.size w3 u → ((u.cell? ⟨w.heap.size, 0, none⟩ = some (.slice p.a p.seats.length p.c) ∧ u.cell? ⟨w.heap.size, 1, none⟩ = some (.int .i64 p.hand)) ∧ u.rangeAt (w.heap.size + 1) 0 pg.cells) ∧ True) := fun u hu => ⟨⟨⟨(b33.below hu b33.lt).cell 0 _ rfl, (b33.below hu b33.lt).cell 1 _ rfl⟩, Box.range [] pg.cells [] (by simpa using b53.below hu b53.lt)⟩, trivial⟩
      refine wp_region_held_drew (S := fun u => ((u.cell? ⟨w.heap.size, 0, none⟩ = some (.slice p.a p.seats.length p.c) ∧ u.cell? ⟨w.heap.size, 1, none⟩ = some (.int .i64 p.hand)) ∧ u.rangeAt (w.heap.size + 1) 0 pg.cells) ∧ True) (by kernel_rfl) ?_ (fun hHeld => ?_)
      · exact HSS.out _ D3
      refine wpAnyH_take (i := 0) (v := .agg #[.slice p.a p.seats.length p.c, .int .i64 p.hand]) rfl (by kernel_rfl) (by kernel_rfl) (by kernel_rfl) (fun _ _ _ h => h) (Or.inl ⟨by rfl, ?_⟩) hHeld ?_
      · intro w' hSw
        have hx0 := hSw.1.1.1
        have hx1 := hSw.1.1.2
        go_simp <;> rfl
      try simp only [Act.put, List.getElem_toArray, List.getElem_cons_zero, List.setIfInBounds_toArray, List.set_cons_zero, List.set_cons_succ]
      refine wpAnyH_ready (rs := [1]) (by kernel_rfl) (by simp) ?_
      refine AllReadyH.cons rfl (fun K hK => ?_) AllReadyH.nil
      go_simp
      have CP := specPoolOk_any p _ (HRP.out _ D3) (PoolA.short_wide hl)
      rw [HOKP] at CP
      simp only [PoolA.cells] at CP
      refine CP.mono ?_
      clear CP
      rintro e u1 ⟨rfl, hbu1⟩
      have E1 : Below w3.heap.size w3 u1 := D3.trans (hbu1.mono D3.size)
      refine hK.out _ _ (HSS.out _ E1) (fun hHeld => ?_)
      clear hK K
      try simp only [Act.put, List.getElem_toArray, List.getElem_cons_zero, List.getElem_cons_succ, List.setIfInBounds_toArray, List.set_cons_zero, List.set_cons_succ]
      refine wpAnyH_take (i := 2) (v := .bool false) rfl (by kernel_rfl) (by kernel_rfl) (by kernel_rfl) (fun _ _ _ h => h) (Or.inl ⟨by rfl, ?_⟩) hHeld ?_
      · intro w' hSw
        go_simp <;> rfl
      try simp only [Act.put, List.getElem_toArray, List.getElem_cons_zero, List.getElem_cons_succ, List.setIfInBounds_toArray, List.set_cons_zero, List.set_cons_succ]
      refine wpAnyH_take (i := 3) (v := .bool false) rfl (by kernel_rfl) (by kernel_rfl) (by kernel_rfl) (fun _ _ _ h => h) (Or.inl ⟨by rfl, ?_⟩) hHeld ?_
      · intro w' hSw
        go_simp <;> rfl
      try simp only [Act.put, List.getElem_toArray, List.getElem_cons_zero, List.getElem_cons_succ, List.setIfInBounds_toArray, List.set_cons_zero, List.set_cons_succ]
      refine wpAnyH_take (i := 4) (v := .int .i64 (-1)) rfl (by kernel_rfl) (by kernel_rfl) (by kernel_rfl) (fun _ _ _ h => h) (Or.inl ⟨by rfl, ?_⟩) hHeld ?_
      · intro w' hSw
        go_simp <;> rfl
      try simp only [Act.put, List.getElem_toArray, List.getElem_cons_zero, List.getElem_cons_succ, List.setIfInBounds_toArray, List.set_cons_zero, List.set_cons_succ]
      refine wpAnyH_take (i := 5) (v := .bool true) rfl (by kernel_rfl) (by kernel_rfl) (by kernel_rfl) (fun _ _ _ h => h) (Or.inl ⟨by rfl, ?_⟩) hHeld ?_
      · intro w' hSw
        go_simp <;> rfl
      try simp only [Act.put, List.getElem_toArray, List.getElem_cons_zero, List.getElem_cons_succ, List.setIfInBounds_toArray, List.set_cons_zero, List.set_cons_succ]
      refine wpAnyH_take (i := 6) (v := .bool true) rfl (by kernel_rfl) (by kernel_rfl) (by kernel_rfl) (fun _ _ _ h => h) (Or.inl ⟨by rfl, ?_⟩) hHeld ?_
      · intro w' hSw
        go_simp <;> rfl
      try simp only [Act.put, List.getElem_toArray, List.getElem_cons_zero, List.getElem_cons_succ, List.setIfInBounds_toArray, List.set_cons_zero, List.set_cons_succ]
      refine wpAnyH_take (i := 7) (v := .bool true) rfl (by kernel_rfl) (by kernel_rfl) (by kernel_rfl) (fun _ _ _ h => h) (Or.inl ⟨by rfl, ?_⟩) hHeld ?_
      · intro w' hSw
        go_simp <;> rfl
      try simp only [Act.put, List.getElem_toArray, List.getElem_cons_zero, List.getElem_cons_succ, List.setIfInBounds_toArray, List.set_cons_zero, List.set_cons_succ]
      refine wpAnyH_take (i := 8) (v := undef) rfl (by kernel_rfl) (by kernel_rfl) (by kernel_rfl) (fun _ _ _ h => h) (Or.inr ⟨by rfl, rfl⟩) hHeld ?_
      try simp only [Act.put, List.getElem_toArray, List.getElem_cons_zero, List.getElem_cons_succ, List.setIfInBounds_toArray, List.set_cons_zero, List.set_cons_succ]
      refine wpAnyH_take (i := 9) (v := undef) rfl (by kernel_rfl) (by kernel_rfl) (by kernel_rfl) (fun _ _ _ h => h) (Or.inr ⟨by rfl, rfl⟩) hHeld ?_
      try simp only [Act.put, List.getElem_toArray, List.getElem_cons_zero, List.getElem_cons_succ, List.setIfInBounds_toArray, List.set_cons_zero, List.set_cons_succ]
      refine wpAnyH_take (i := 10) (v := undef) rfl (by kernel_rfl) (by kernel_rfl) (by kernel_rfl) (fun _ _ _ h => h) (Or.inr ⟨by rfl, rfl⟩) hHeld ?_
      try simp only [Act.put, List.getElem_toArray, List.getElem_cons_zero, List.getElem_cons_succ, List.setIfInBounds_toArray, List.set_cons_zero, List.set_cons_succ]
      refine wpAnyH_take (i := 11) (v := .bool true) rfl (by kernel_rfl) (by kernel_rfl) (by kernel_rfl) (fun _ _ _ h => h) (Or.inl ⟨by rfl, ?_⟩) hHeld ?_
      · intro w' hSw
        go_simp <;> rfl
      try simp only [Act.put, List.getElem_toArray, List.getElem_cons_zero, List.getElem_cons_succ, List.setIfInBounds_toArray, List.set_cons_zero, List.set_cons_succ]
      refine wpAnyH_take (i := 12) (v := .bool true) rfl (by kernel_rfl) (by kernel_rfl) (by kernel_rfl) (fun _ _ _ h => h) (Or.inl ⟨by rfl, ?_⟩) hHeld ?_
      · intro w' hSw
        go_simp <;> rfl
      try simp only [Act.put, List.getElem_toArray, List.getElem_cons_zero, List.getElem_cons_succ, List.setIfInBounds_toArray, List.set_cons_zero, List.set_cons_succ]
      refine wpAnyH_take (i := 13) (v := undef) rfl (by kernel_rfl) (by kernel_rfl) (by kernel_rfl) (fun _ _ _ h => h) (Or.inr ⟨by rfl, rfl⟩) hHeld ?_
      try simp only [Act.put, List.getElem_toArray, List.getElem_cons_zero, List.getElem_cons_succ, List.setIfInBounds_toArray, List.set_cons_zero, List.set_cons_succ]
      refine wpAnyH_take (i := 14) (v := undef) rfl (by kernel_rfl) (by kernel_rfl) (by kernel_rfl) (fun _ _ _ h => h) (Or.inr ⟨by rfl, rfl⟩) hHeld ?_
      try simp only [Act.put, List.getElem_toArray, List.getElem_cons_zero, List.getElem_cons_succ, List.setIfInBounds_toArray, List.set_cons_zero, List.set_cons_succ]
      refine wpAnyH_take (i := 15) (v := undef) rfl (by kernel_rfl) (by kernel_rfl) (by kernel_rfl) (fun _ _ _ h => h) (Or.inr ⟨by rfl, rfl⟩) hHeld ?_
      try simp only [Act.put, List.getElem_toArray, List.getElem_cons_zero, List.getElem_cons_succ, List.setIfInBounds_toArray, List.set_cons_zero, List.set_cons_succ]
      refine wpAnyH_take (i := 16) (v := undef) rfl (by kernel_rfl) (by kernel_rfl) (by kernel_rfl) (fun _ _ _ h => h) (Or.inr ⟨by rfl, rfl⟩) hHeld ?_
      try simp only [Act.put, List.getElem_toArray, List.getElem_cons_zero, List.getElem_cons_succ, List.setIfInBounds_toArray, List.set_cons_zero, List.set_cons_succ]
      refine wpAnyH_take (i := 17) (v := undef) rfl (by kernel_rfl) (by kernel_rfl) (by kernel_rfl) (fun _ _ _ h => h) (Or.inr ⟨by rfl, rfl⟩) hHeld ?_
      try simp only [Act.put, List.getElem_toArray, List.getElem_cons_zero, List.getElem_cons_succ, List.setIfInBounds_toArray, List.set_cons_zero, List.set_cons_succ]
      refine wpAnyH_take (i := 18) (v := undef) rfl (by kernel_rfl) (by kernel_rfl) (by kernel_rfl) (fun _ _ _ h => h) (Or.inr ⟨by rfl, rfl⟩) hHeld ?_
      try simp only [Act.put, List.getElem_toArray, List.getElem_cons_zero, List.getElem_cons_succ, List.setIfInBounds_toArray, List.set_cons_zero, List.set_cons_succ]
      refine wpAnyH_take (i := 19) (v := undef) rfl (by kernel_rfl) (by kernel_rfl) (by kernel_rfl) (fun _ _ _ h => h) (Or.inr ⟨by rfl, rfl⟩) hHeld ?_
      try simp only [Act.put, List.getElem_toArray, List.getElem_cons_zero, List.getElem_cons_succ, List.setIfInBounds_toArray, List.set_cons_zero, List.set_cons_succ]
      refine wpAnyH_take (i := 20) (v := undef) rfl (by kernel_rfl) (by kernel_rfl) (by kernel_rfl) (fun _ _ _ h => h) (Or.inr ⟨by rfl, rfl⟩) hHeld ?_
      try simp only [Act.put, List.getElem_toArray, List.getElem_cons_zero, List.getElem_cons_succ, List.setIfInBounds_toArray, List.set_cons_zero, List.set_cons_succ]
      refine wpAnyH_take (i := 21) (v := undef) rfl (by kernel_rfl) (by kernel_rfl) (by kernel_rfl) (fun _ _ _ h => h) (Or.inr ⟨by rfl, rfl⟩) hHeld ?_
      try simp only [Act.put, List.getElem_toArray, List.getElem_cons_zero, List.getElem_cons_succ, List.setIfInBounds_toArray, List.set_cons_zero, List.set_cons_succ]
      refine wpAnyH_take (i := 22) (v := undef) rfl (by kernel_rfl) (by kernel_rfl) (by kernel_rfl) (fun _ _ _ h => h) (Or.inr ⟨by rfl, rfl⟩) hHeld ?_
      try simp only [Act.put, List.getElem_toArray, List.getElem_cons_zero, List.getElem_cons_succ, List.setIfInBounds_toArray, List.set_cons_zero, List.set_cons_succ]
      refine wpAnyH_take (i := 23) (v := .bool true) rfl (by kernel_rfl) (by kernel_rfl) (by kernel_rfl) (fun _ _ _ h => h) (Or.inl ⟨by rfl, ?_⟩) hHeld ?_
      · intro w' hSw
        go_simp <;> rfl
      try simp only [Act.put, List.getElem_toArray, List.getElem_cons_zero, List.getElem_cons_succ, List.setIfInBounds_toArray, List.set_cons_zero, List.set_cons_succ]
      refine wpAnyH_done (by kernel_rfl) ?_ _
      clear hHeld
      have b6F := b63.below E1 b63.lt
      have b8F := b83.below E1 b83.lt
      have oF0 := PoolA.own.below o3 E1
      have nF : Below w.heap.size w u1 := n3.trans (E1.mono n3.size)
      have sF := E1.size
      have e0 := b8F.cell 0 _ rfl
      have e1 := b8F.cell 1 _ rfl
      have m0 := b6F.cell 0 _ rfl
      have m1 := b6F.cell 1 _ rfl
      have mf0 := b6F.frozen 0
      have mf1 := b6F.frozen 1
      obtain ⟨WF, hWF, bF, hwF, hsF⟩ := box2_fill b6F (.slice t.a t.seats.length t.c) (.int .i64 t.hand)
      have q0 := bF.cell 0 _ rfl
      have q1 := bF.cell 1 _ rfl
      have hoF := (PoolA.own.within oF0 hwF (.inr (by omega))).widen (show w.heap.size ≤ W.heap.size by omega) (show w1.heap.size ≤ WF.heap.size by omega) (Nat.le_refl _)
      have hbF : Below w.heap.size w WF := nF.trans (hwF.below (by omega) (by omega))
      clear hwF hsF bF oF0 b6F b8F HSS
      go_wp2_with fail
      rw [hWF.out]
      exact bodyPost_ret (v := .tuple #[.agg #[.slice t.a t.seats.length t.c, .int .i64 t.hand], .bool false]) (by simp [results, Tryd.results16, go_sem, q0, q1]) rfl ⟨t, false, rfl, HNO, hoF, hbF⟩
  case inl =>
    have hkp : k < p.seats.length := by simpa [PoolA.v] using hk
    have HKT : Hid (k < t.seats.length) := by
      have e := congrArg (fun v => v.seats.length) HV.out
      simp only [PoolA.v, List.length_map] at e
      rw [Hid]; omega
    obtain ⟨bp, op, hpa, hcell⟩ := (HRP.out w3 (Below.refl _ _)) (by intro e; rw [e] at hkp; simp at hkp)
    have hsl : w3.cell? ⟨bp, op + k * 20 + 1, none⟩ = some (.int .i64 (p.seats.getD k zeroSt).lsn) := (hcell k hkp).1 1 _ rfl
    have HPA : Hid (p.a = some ⟨bp, op, none⟩) := hpa
    have hkk : (k : Int) < (p.seats.length : Int) := by omega
    have hk0 : (0 : Int) ≤ (k : Int) := by omega
    have HML : Hid (pg.lsn < (p.seats.getD k zeroSt).lsn → mayChange p.v no pg.lsn (pg.ss.map (·.v)) = false) := fun h => may_lsn hsk h
    have HMA : Hid (okPool p.v = true → okP pg.lsn (pg.ss.map (·.v)) = true → ¬ pg.lsn < (p.seats.getD k zeroSt).lsn → changeOf6 p.v no pg.lsn (pg.ss.map (·.v)) = (setSeatV p.v k (fun _ => ⟨no, pg.lsn, pg.ss.map (·.v), true, true⟩), true)) := fun h1 h2 h3 => change_yes (may_all h1 hsk h2 h3) hsk
    rw [hsk]
    clear hsk hcell hpa hk
    generalize (p.seats.getD k zeroSt).lsn = sl at *
    go_upto_region 3 with fail
    cases HOKP : okPool p.v with
    | false =>
      have HNO : Hid (changeOf6 p.v no pg.lsn (pg.ss.map (·.v)) = (t.v, false)) := by rw [Hid, change_no (may_pool HOKP), HV.out]
      clear HV HML HMA
      have HSS : Hid (∀ u, Below w3.heap.size w3 u → ((u.cell? ⟨w.heap.size, 0, none⟩ = some (.slice p.a p.seats.length p.c) ∧ u.cell? ⟨w.heap.size, 1, none⟩ = some (.int .i64 p.hand)) ∧ u.rangeAt (w.heap.size + 1) 0 pg.cells) ∧ (u.cell? ⟨bp, op + k * 20 + 1, none⟩ = some (.int .i64 sl) ∧ u.cell? ⟨w.heap.size + 1, 0, none⟩ = some (.int .i64 pg.lsn))) := fun u hu => ⟨⟨⟨(b33.below hu b33.lt).cell 0 _ rfl, (b33.below hu b33.lt).cell 1 _ rfl⟩, Box.range [] pg.cells [] (by simpa using b53.below hu b53.lt)⟩, (hu.cell (block_lt hsl)).trans hsl, (b53.below hu b53.lt).cell 0 _ rfl⟩
      refine wp_region_held_drew (S := fun u => ((u.cell? ⟨w.heap.size, 0, none⟩ = some (.slice p.a p.seats.length p.c) ∧ u.cell? ⟨w.heap.size, 1, none⟩ = some (.int .i64 p.hand)) ∧ u.rangeAt (w.heap.size + 1) 0 pg.cells) ∧ (u.cell? ⟨bp, op + k * 20 + 1, none⟩ = some (.int .i64 sl) ∧ u.cell? ⟨w.heap.size + 1, 0, none⟩ = some (.int .i64 pg.lsn))) (by kernel_rfl) ?_ (fun hHeld => ?_)
      · exact HSS.out _ D3
      refine wpAnyH_take (i := 0) (v := .agg #[.slice p.a p.seats.length p.c, .int .i64 p.hand]) rfl (by kernel_rfl) (by kernel_rfl) (by kernel_rfl) (fun _ _ _ h => h) (Or.inl ⟨by rfl, ?_⟩) hHeld ?_
      · intro w' hSw
        have hx0 := hSw.1.1.1
        have hx1 := hSw.1.1.2
        go_simp <;> rfl
      try simp only [Act.put, List.getElem_toArray, List.getElem_cons_zero, List.setIfInBounds_toArray, List.set_cons_zero, List.set_cons_succ]
      refine wpAnyH_ready (rs := [1]) (by kernel_rfl) (by simp) ?_
      refine AllReadyH.cons rfl (fun K hK => ?_) AllReadyH.nil
      go_simp
      have CP := specPoolOk_any p _ (HRP.out _ D3) (PoolA.short_wide hl)
      rw [HOKP] at CP
      simp only [PoolA.cells] at CP
      refine CP.mono ?_
      clear CP
      rintro e u1 ⟨rfl, hbu1⟩
      have E1 : Below w3.heap.size w3 u1 := D3.trans (hbu1.mono D3.size)
      refine hK.out _ _ (HSS.out _ E1) (fun hHeld => ?_)
      clear hK K
      try simp only [Act.put, List.getElem_toArray, List.getElem_cons_zero, List.getElem_cons_succ, List.setIfInBounds_toArray, List.set_cons_zero, List.set_cons_succ]
      refine wpAnyH_take (i := 2) (v := .bool true) rfl (by kernel_rfl) (by kernel_rfl) (by kernel_rfl) (fun _ _ _ h => h) (Or.inl ⟨by rfl, ?_⟩) hHeld ?_
      · intro w' hSw
        go_simp <;> rfl
      try simp only [Act.put, List.getElem_toArray, List.getElem_cons_zero, List.getElem_cons_succ, List.setIfInBounds_toArray, List.set_cons_zero, List.set_cons_succ]
      refine wpAnyH_take (i := 3) (v := .bool true) rfl (by kernel_rfl) (by kernel_rfl) (by kernel_rfl) (fun _ _ _ h => h) (Or.inl ⟨by rfl, ?_⟩) hHeld ?_
      · intro w' hSw
        go_simp <;> rfl
      try simp only [Act.put, List.getElem_toArray, List.getElem_cons_zero, List.getElem_cons_succ, List.setIfInBounds_toArray, List.set_cons_zero, List.set_cons_succ]
      refine wpAnyH_take (i := 4) (v := undef) rfl (by kernel_rfl) (by kernel_rfl) (by kernel_rfl) (fun _ _ _ h => h) (Or.inr ⟨by rfl, rfl⟩) hHeld ?_
      try simp only [Act.put, List.getElem_toArray, List.getElem_cons_zero, List.getElem_cons_succ, List.setIfInBounds_toArray, List.set_cons_zero, List.set_cons_succ]
      refine wpAnyH_take (i := 5) (v := undef) rfl (by kernel_rfl) (by kernel_rfl) (by kernel_rfl) (fun _ _ _ h => h) (Or.inr ⟨by rfl, rfl⟩) hHeld ?_
      try simp only [Act.put, List.getElem_toArray, List.getElem_cons_zero, List.getElem_cons_succ, List.setIfInBounds_toArray, List.set_cons_zero, List.set_cons_succ]
      refine wpAnyH_take (i := 6) (v := .bool true) rfl (by kernel_rfl) (by kernel_rfl) (by kernel_rfl) (fun _ _ _ h => h) (Or.inl ⟨by rfl, ?_⟩) hHeld ?_
      · intro w' hSw
        go_simp <;> rfl
      try simp only [Act.put, List.getElem_toArray, List.getElem_cons_zero, List.getElem_cons_succ, List.setIfInBounds_toArray, List.set_cons_zero, List.set_cons_succ]
      refine wpAnyH_take (i := 7) (v := .bool true) rfl (by kernel_rfl) (by kernel_rfl) (by kernel_rfl) (fun _ _ _ h => h) (Or.inl ⟨by rfl, ?_⟩) hHeld ?_
      · intro w' hSw
        go_simp <;> rfl
      try simp only [Act.put, List.getElem_toArray, List.getElem_cons_zero, List.getElem_cons_succ, List.setIfInBounds_toArray, List.set_cons_zero, List.set_cons_succ]
      refine wpAnyH_take (i := 8) (v := undef) rfl (by kernel_rfl) (by kernel_rfl) (by kernel_rfl) (fun _ _ _ h => h) (Or.inr ⟨by rfl, rfl⟩) hHeld ?_
      try simp only [Act.put, List.getElem_toArray, List.getElem_cons_zero, List.getElem_cons_succ, List.setIfInBounds_toArray, List.set_cons_zero, List.set_cons_succ]
      refine wpAnyH_take (i := 9) (v := undef) rfl (by kernel_rfl) (by kernel_rfl) (by kernel_rfl) (fun _ _ _ h => h) (Or.inr ⟨by rfl, rfl⟩) hHeld ?_
      try simp only [Act.put, List.getElem_toArray, List.getElem_cons_zero, List.getElem_cons_succ, List.setIfInBounds_toArray, List.set_cons_zero, List.set_cons_succ]
      refine wpAnyH_take (i := 10) (v := undef) rfl (by kernel_rfl) (by kernel_rfl) (by kernel_rfl) (fun _ _ _ h => h) (Or.inr ⟨by rfl, rfl⟩) hHeld ?_
      try simp only [Act.put, List.getElem_toArray, List.getElem_cons_zero, List.getElem_cons_succ, List.setIfInBounds_toArray, List.set_cons_zero, List.set_cons_succ]
      refine wpAnyH_take (i := 11) (v := .bool true) rfl (by kernel_rfl) (by kernel_rfl) (by kernel_rfl) (fun _ _ _ h => h) (Or.inl ⟨by rfl, ?_⟩) hHeld ?_
      · intro w' hSw
        go_simp <;> rfl
      try simp only [Act.put, List.getElem_toArray, List.getElem_cons_zero, List.getElem_cons_succ, List.setIfInBounds_toArray, List.set_cons_zero, List.set_cons_succ]
      refine wpAnyH_take (i := 12) (v := .bool true) rfl (by kernel_rfl) (by kernel_rfl) (by kernel_rfl) (fun _ _ _ h => h) (Or.inl ⟨by rfl, ?_⟩) hHeld ?_
      · intro w' hSw
        go_simp <;> rfl
      try simp only [Act.put, List.getElem_toArray, List.getElem_cons_zero, List.getElem_cons_succ, List.setIfInBounds_toArray, List.set_cons_zero, List.set_cons_succ]
      refine wpAnyH_take (i := 13) (v := undef) rfl (by kernel_rfl) (by kernel_rfl) (by kernel_rfl) (fun _ _ _ h => h) (Or.inr ⟨by rfl, rfl⟩) hHeld ?_
      try simp only [Act.put, List.getElem_toArray, List.getElem_cons_zero, List.getElem_cons_succ, List.setIfInBounds_toArray, List.set_cons_zero, List.set_cons_succ]
      refine wpAnyH_take (i := 14) (v := undef) rfl (by kernel_rfl) (by kernel_rfl) (by kernel_rfl) (fun _ _ _ h => h) (Or.inr ⟨by rfl, rfl⟩) hHeld ?_
      try simp only [Act.put, List.getElem_toArray, List.getElem_cons_zero, List.getElem_cons_succ, List.setIfInBounds_toArray, List.set_cons_zero, List.set_cons_succ]
      refine wpAnyH_take (i := 15) (v := undef) rfl (by kernel_rfl) (by kernel_rfl) (by kernel_rfl) (fun _ _ _ h => h) (Or.inr ⟨by rfl, rfl⟩) hHeld ?_
      try simp only [Act.put, List.getElem_toArray, List.getElem_cons_zero, List.getElem_cons_succ, List.setIfInBounds_toArray, List.set_cons_zero, List.set_cons_succ]
      refine wpAnyH_take (i := 16) (v := undef) rfl (by kernel_rfl) (by kernel_rfl) (by kernel_rfl) (fun _ _ _ h => h) (Or.inr ⟨by rfl, rfl⟩) hHeld ?_
      try simp only [Act.put, List.getElem_toArray, List.getElem_cons_zero, List.getElem_cons_succ, List.setIfInBounds_toArray, List.set_cons_zero, List.set_cons_succ]
      refine wpAnyH_take (i := 17) (v := undef) rfl (by kernel_rfl) (by kernel_rfl) (by kernel_rfl) (fun _ _ _ h => h) (Or.inr ⟨by rfl, rfl⟩) hHeld ?_
      try simp only [Act.put, List.getElem_toArray, List.getElem_cons_zero, List.getElem_cons_succ, List.setIfInBounds_toArray, List.set_cons_zero, List.set_cons_succ]
      refine wpAnyH_take (i := 18) (v := undef) rfl (by kernel_rfl) (by kernel_rfl) (by kernel_rfl) (fun _ _ _ h => h) (Or.inr ⟨by rfl, rfl⟩) hHeld ?_
      try simp only [Act.put, List.getElem_toArray, List.getElem_cons_zero, List.getElem_cons_succ, List.setIfInBounds_toArray, List.set_cons_zero, List.set_cons_succ]
      refine wpAnyH_take (i := 19) (v := undef) rfl (by kernel_rfl) (by kernel_rfl) (by kernel_rfl) (fun _ _ _ h => h) (Or.inr ⟨by rfl, rfl⟩) hHeld ?_
      try simp only [Act.put, List.getElem_toArray, List.getElem_cons_zero, List.getElem_cons_succ, List.setIfInBounds_toArray, List.set_cons_zero, List.set_cons_succ]
      refine wpAnyH_take (i := 20) (v := undef) rfl (by kernel_rfl) (by kernel_rfl) (by kernel_rfl) (fun _ _ _ h => h) (Or.inr ⟨by rfl, rfl⟩) hHeld ?_
      try simp only [Act.put, List.getElem_toArray, List.getElem_cons_zero, List.getElem_cons_succ, List.setIfInBounds_toArray, List.set_cons_zero, List.set_cons_succ]
      refine wpAnyH_take (i := 21) (v := undef) rfl (by kernel_rfl) (by kernel_rfl) (by kernel_rfl) (fun _ _ _ h => h) (Or.inr ⟨by rfl, rfl⟩) hHeld ?_
      try simp only [Act.put, List.getElem_toArray, List.getElem_cons_zero, List.getElem_cons_succ, List.setIfInBounds_toArray, List.set_cons_zero, List.set_cons_succ]
      refine wpAnyH_take (i := 22) (v := undef) rfl (by kernel_rfl) (by kernel_rfl) (by kernel_rfl) (fun _ _ _ h => h) (Or.inr ⟨by rfl, rfl⟩) hHeld ?_
      try simp only [Act.put, List.getElem_toArray, List.getElem_cons_zero, List.getElem_cons_succ, List.setIfInBounds_toArray, List.set_cons_zero, List.set_cons_succ]
      refine wpAnyH_take (i := 23) (v := .bool true) rfl (by kernel_rfl) (by kernel_rfl) (by kernel_rfl) (fun _ _ _ h => h) (Or.inl ⟨by rfl, ?_⟩) hHeld ?_
      · intro w' hSw
        go_simp <;> rfl
      try simp only [Act.put, List.getElem_toArray, List.getElem_cons_zero, List.getElem_cons_succ, List.setIfInBounds_toArray, List.set_cons_zero, List.set_cons_succ]
      refine wpAnyH_done (by kernel_rfl) ?_ _
      clear hHeld
      have b6F := b63.below E1 b63.lt
      have b8F := b83.below E1 b83.lt
      have oF0 := PoolA.own.below o3 E1
      have nF : Below w.heap.size w u1 := n3.trans (E1.mono n3.size)
      have sF := E1.size
      have e0 := b8F.cell 0 _ rfl
      have e1 := b8F.cell 1 _ rfl
      have m0 := b6F.cell 0 _ rfl
      have m1 := b6F.cell 1 _ rfl
      have mf0 := b6F.frozen 0
      have mf1 := b6F.frozen 1
      obtain ⟨WF, hWF, bF, hwF, hsF⟩ := box2_fill b6F (.slice t.a t.seats.length t.c) (.int .i64 t.hand)
      have q0 := bF.cell 0 _ rfl
      have q1 := bF.cell 1 _ rfl
      have hoF := (PoolA.own.within oF0 hwF (.inr (by omega))).widen (show w.heap.size ≤ W.heap.size by omega) (show w1.heap.size ≤ WF.heap.size by omega) (Nat.le_refl _)
      have hbF : Below w.heap.size w WF := nF.trans (hwF.below (by omega) (by omega))
      clear hwF hsF bF oF0 b6F b8F HSS
      go_wp2_with fail
      rw [hWF.out]
      exact bodyPost_ret (v := .tuple #[.agg #[.slice t.a t.seats.length t.c, .int .i64 t.hand], .bool false]) (by simp [results, Tryd.results16, go_sem, q0, q1]) rfl ⟨t, false, rfl, HNO, hoF, hbF⟩
    | true =>
      cases HOKG : okP pg.lsn (pg.ss.map (·.v)) with
      | false =>
        have HNO : Hid (changeOf6 p.v no pg.lsn (pg.ss.map (·.v)) = (t.v, false)) := by rw [Hid, change_no (may_page HOKG), HV.out]
        clear HV HML HMA
        have HSS : Hid (∀ u, Below w3.heap.size w3 u → ((u.cell? ⟨w.heap.size, 0, none⟩ = some (.slice p.a p.seats.length p.c) ∧ u.cell? ⟨w.heap.size, 1, none⟩ = some (.int .i64 p.hand)) ∧ u.rangeAt (w.heap.size + 1) 0 pg.cells) ∧ (u.cell? ⟨bp, op + k * 20 + 1, none⟩ = some (.int .i64 sl) ∧ u.cell? ⟨w.heap.size + 1, 0, none⟩ = some (.int .i64 pg.lsn))) := fun u hu => ⟨⟨⟨(b33.below hu b33.lt).cell 0 _ rfl, (b33.below hu b33.lt).cell 1 _ rfl⟩, Box.range [] pg.cells [] (by simpa using b53.below hu b53.lt)⟩, (hu.cell (block_lt hsl)).trans hsl, (b53.below hu b53.lt).cell 0 _ rfl⟩
        refine wp_region_held_drew (S := fun u => ((u.cell? ⟨w.heap.size, 0, none⟩ = some (.slice p.a p.seats.length p.c) ∧ u.cell? ⟨w.heap.size, 1, none⟩ = some (.int .i64 p.hand)) ∧ u.rangeAt (w.heap.size + 1) 0 pg.cells) ∧ (u.cell? ⟨bp, op + k * 20 + 1, none⟩ = some (.int .i64 sl) ∧ u.cell? ⟨w.heap.size + 1, 0, none⟩ = some (.int .i64 pg.lsn))) (by kernel_rfl) ?_ (fun hHeld => ?_)
        · exact HSS.out _ D3
        refine wpAnyH_take (i := 0) (v := .agg #[.slice p.a p.seats.length p.c, .int .i64 p.hand]) rfl (by kernel_rfl) (by kernel_rfl) (by kernel_rfl) (fun _ _ _ h => h) (Or.inl ⟨by rfl, ?_⟩) hHeld ?_
        · intro w' hSw
          have hx0 := hSw.1.1.1
          have hx1 := hSw.1.1.2
          go_simp <;> rfl
        try simp only [Act.put, List.getElem_toArray, List.getElem_cons_zero, List.setIfInBounds_toArray, List.set_cons_zero, List.set_cons_succ]
        refine wpAnyH_ready (rs := [1]) (by kernel_rfl) (by simp) ?_
        refine AllReadyH.cons rfl (fun K hK => ?_) AllReadyH.nil
        go_simp
        have CP := specPoolOk_any p _ (HRP.out _ D3) (PoolA.short_wide hl)
        rw [HOKP] at CP
        simp only [PoolA.cells] at CP
        refine CP.mono ?_
        clear CP
        rintro e u1 ⟨rfl, hbu1⟩
        have E1 : Below w3.heap.size w3 u1 := D3.trans (hbu1.mono D3.size)
        refine hK.out _ _ (HSS.out _ E1) (fun hHeld => ?_)
        clear hK K
        try simp only [Act.put, List.getElem_toArray, List.getElem_cons_zero, List.getElem_cons_succ, List.setIfInBounds_toArray, List.set_cons_zero, List.set_cons_succ]
        refine wpAnyH_take (i := 2) (v := .bool false) rfl (by kernel_rfl) (by kernel_rfl) (by kernel_rfl) (fun _ _ _ h => h) (Or.inl ⟨by rfl, ?_⟩) hHeld ?_
        · intro w' hSw
          go_simp <;> rfl
        try simp only [Act.put, List.getElem_toArray, List.getElem_cons_zero, List.getElem_cons_succ, List.setIfInBounds_toArray, List.set_cons_zero, List.set_cons_succ]
        refine wpAnyH_take (i := 3) (v := .bool false) rfl (by kernel_rfl) (by kernel_rfl) (by kernel_rfl) (fun _ _ _ h => h) (Or.inl ⟨by rfl, ?_⟩) hHeld ?_
        · intro w' hSw
          go_simp <;> rfl
        try simp only [Act.put, List.getElem_toArray, List.getElem_cons_zero, List.getElem_cons_succ, List.setIfInBounds_toArray, List.set_cons_zero, List.set_cons_succ]
        refine wpAnyH_take (i := 4) (v := .int .i64 (k : Int)) rfl (by kernel_rfl) (by kernel_rfl) (by kernel_rfl) (fun _ _ _ h => h) (Or.inl ⟨by rfl, ?_⟩) hHeld ?_
        · intro w' hSw
          go_simp <;> rfl
        try simp only [Act.put, List.getElem_toArray, List.getElem_cons_zero, List.getElem_cons_succ, List.setIfInBounds_toArray, List.set_cons_zero, List.set_cons_succ]
        refine wpAnyH_take (i := 5) (v := .bool false) rfl (by kernel_rfl) (by kernel_rfl) (by kernel_rfl) (fun _ _ _ h => h) (Or.inl ⟨by rfl, ?_⟩) hHeld ?_
        · intro w' hSw
          go_simp <;> rfl
        try simp only [Act.put, List.getElem_toArray, List.getElem_cons_zero, List.getElem_cons_succ, List.setIfInBounds_toArray, List.set_cons_zero, List.set_cons_succ]
        refine wpAnyH_take (i := 6) (v := .bool false) rfl (by kernel_rfl) (by kernel_rfl) (by kernel_rfl) (fun _ _ _ h => h) (Or.inl ⟨by rfl, ?_⟩) hHeld ?_
        · intro w' hSw
          go_simp <;> rfl
        try simp only [Act.put, List.getElem_toArray, List.getElem_cons_zero, List.getElem_cons_succ, List.setIfInBounds_toArray, List.set_cons_zero, List.set_cons_succ]
        refine wpAnyH_take (i := 7) (v := .bool false) rfl (by kernel_rfl) (by kernel_rfl) (by kernel_rfl) (fun _ _ _ h => h) (Or.inl ⟨by rfl, ?_⟩) hHeld ?_
        · intro w' hSw
          go_simp <;> rfl
        try simp only [Act.put, List.getElem_toArray, List.getElem_cons_zero, List.getElem_cons_succ, List.setIfInBounds_toArray, List.set_cons_zero, List.set_cons_succ]
        refine wpAnyH_take (i := 8) rfl (by kernel_rfl) (by kernel_rfl) (by kernel_rfl) (fun _ _ _ h => h) (yieldsIf_load_mid (by rfl) _ _ rfl _ _ rfl pg.cells _ (fun _ h => h.1.2) Tryd.underlying34 rfl HI.out) hHeld ?_
        try simp only [Act.put, List.getElem_toArray, List.getElem_cons_zero, List.getElem_cons_succ, List.setIfInBounds_toArray, List.set_cons_zero, List.set_cons_succ]
        refine wpAnyH_ready (rs := [9]) (by kernel_rfl) (by simp) ?_
        refine AllReadyH.cons rfl (fun K hK => ?_) AllReadyH.nil
        go_simp
        refine (specPageOk_any pg h4 _ (HRG.out _ E1) hlp).mono ?_
        rw [HOKG]
        rintro e u2 ⟨rfl, hbu2⟩
        have E2 : Below w3.heap.size w3 u2 := E1.trans (hbu2.mono E1.size)
        refine hK.out _ _ (HSS.out _ E2) (fun hHeld => ?_)
        clear hK K
        try simp only [Act.put, List.getElem_toArray, List.getElem_cons_zero, List.getElem_cons_succ, List.setIfInBounds_toArray, List.set_cons_zero, List.set_cons_succ]
        refine wpAnyH_take (i := 10) (v := .bool true) rfl (by kernel_rfl) (by kernel_rfl) (by kernel_rfl) (fun _ _ _ h => h) (Or.inl ⟨by rfl, ?_⟩) hHeld ?_
        · intro w' hSw
          go_simp <;> rfl
        try simp only [Act.put, List.getElem_toArray, List.getElem_cons_zero, List.getElem_cons_succ, List.setIfInBounds_toArray, List.set_cons_zero, List.set_cons_succ]
        refine wpAnyH_take (i := 11) (v := .bool true) rfl (by kernel_rfl) (by kernel_rfl) (by kernel_rfl) (fun _ _ _ h => h) (Or.inl ⟨by rfl, ?_⟩) hHeld ?_
        · intro w' hSw
          go_simp <;> rfl
        try simp only [Act.put, List.getElem_toArray, List.getElem_cons_zero, List.getElem_cons_succ, List.setIfInBounds_toArray, List.set_cons_zero, List.set_cons_succ]
        refine wpAnyH_take (i := 12) (v := .bool true) rfl (by kernel_rfl) (by kernel_rfl) (by kernel_rfl) (fun _ _ _ h => h) (Or.inl ⟨by rfl, ?_⟩) hHeld ?_
        · intro w' hSw
          go_simp <;> rfl
        try simp only [Act.put, List.getElem_toArray, List.getElem_cons_zero, List.getElem_cons_succ, List.setIfInBounds_toArray, List.set_cons_zero, List.set_cons_succ]
        refine wpAnyH_take (i := 13) (v := undef) rfl (by kernel_rfl) (by kernel_rfl) (by kernel_rfl) (fun _ _ _ h => h) (Or.inr ⟨by rfl, rfl⟩) hHeld ?_
        try simp only [Act.put, List.getElem_toArray, List.getElem_cons_zero, List.getElem_cons_succ, List.setIfInBounds_toArray, List.set_cons_zero, List.set_cons_succ]
        refine wpAnyH_take (i := 14) (v := undef) rfl (by kernel_rfl) (by kernel_rfl) (by kernel_rfl) (fun _ _ _ h => h) (Or.inr ⟨by rfl, rfl⟩) hHeld ?_
        try simp only [Act.put, List.getElem_toArray, List.getElem_cons_zero, List.getElem_cons_succ, List.setIfInBounds_toArray, List.set_cons_zero, List.set_cons_succ]
        refine wpAnyH_take (i := 15) (v := undef) rfl (by kernel_rfl) (by kernel_rfl) (by kernel_rfl) (fun _ _ _ h => h) (Or.inr ⟨by rfl, rfl⟩) hHeld ?_
        try simp only [Act.put, List.getElem_toArray, List.getElem_cons_zero, List.getElem_cons_succ, List.setIfInBounds_toArray, List.set_cons_zero, List.set_cons_succ]
        refine wpAnyH_take (i := 16) (v := undef) rfl (by kernel_rfl) (by kernel_rfl) (by kernel_rfl) (fun _ _ _ h => h) (Or.inr ⟨by rfl, rfl⟩) hHeld ?_
        try simp only [Act.put, List.getElem_toArray, List.getElem_cons_zero, List.getElem_cons_succ, List.setIfInBounds_toArray, List.set_cons_zero, List.set_cons_succ]
        refine wpAnyH_take (i := 17) (v := undef) rfl (by kernel_rfl) (by kernel_rfl) (by kernel_rfl) (fun _ _ _ h => h) (Or.inr ⟨by rfl, rfl⟩) hHeld ?_
        try simp only [Act.put, List.getElem_toArray, List.getElem_cons_zero, List.getElem_cons_succ, List.setIfInBounds_toArray, List.set_cons_zero, List.set_cons_succ]
        refine wpAnyH_take (i := 18) (v := undef) rfl (by kernel_rfl) (by kernel_rfl) (by kernel_rfl) (fun _ _ _ h => h) (Or.inr ⟨by rfl, rfl⟩) hHeld ?_
        try simp only [Act.put, List.getElem_toArray, List.getElem_cons_zero, List.getElem_cons_succ, List.setIfInBounds_toArray, List.set_cons_zero, List.set_cons_succ]
        refine wpAnyH_take (i := 19) (v := undef) rfl (by kernel_rfl) (by kernel_rfl) (by kernel_rfl) (fun _ _ _ h => h) (Or.inr ⟨by rfl, rfl⟩) hHeld ?_
        try simp only [Act.put, List.getElem_toArray, List.getElem_cons_zero, List.getElem_cons_succ, List.setIfInBounds_toArray, List.set_cons_zero, List.set_cons_succ]
        refine wpAnyH_take (i := 20) (v := undef) rfl (by kernel_rfl) (by kernel_rfl) (by kernel_rfl) (fun _ _ _ h => h) (Or.inr ⟨by rfl, rfl⟩) hHeld ?_
        try simp only [Act.put, List.getElem_toArray, List.getElem_cons_zero, List.getElem_cons_succ, List.setIfInBounds_toArray, List.set_cons_zero, List.set_cons_succ]
        refine wpAnyH_take (i := 21) (v := undef) rfl (by kernel_rfl) (by kernel_rfl) (by kernel_rfl) (fun _ _ _ h => h) (Or.inr ⟨by rfl, rfl⟩) hHeld ?_
        try simp only [Act.put, List.getElem_toArray, List.getElem_cons_zero, List.getElem_cons_succ, List.setIfInBounds_toArray, List.set_cons_zero, List.set_cons_succ]
        refine wpAnyH_take (i := 22) (v := undef) rfl (by kernel_rfl) (by kernel_rfl) (by kernel_rfl) (fun _ _ _ h => h) (Or.inr ⟨by rfl, rfl⟩) hHeld ?_
        try simp only [Act.put, List.getElem_toArray, List.getElem_cons_zero, List.getElem_cons_succ, List.setIfInBounds_toArray, List.set_cons_zero, List.set_cons_succ]
        refine wpAnyH_take (i := 23) (v := .bool true) rfl (by kernel_rfl) (by kernel_rfl) (by kernel_rfl) (fun _ _ _ h => h) (Or.inl ⟨by rfl, ?_⟩) hHeld ?_
        · intro w' hSw
          go_simp <;> rfl
        try simp only [Act.put, List.getElem_toArray, List.getElem_cons_zero, List.getElem_cons_succ, List.setIfInBounds_toArray, List.set_cons_zero, List.set_cons_succ]
        refine wpAnyH_done (by kernel_rfl) ?_ _
        clear hHeld
        have b6F := b63.below E2 b63.lt
        have b8F := b83.below E2 b83.lt
        have oF0 := PoolA.own.below o3 E2
        have nF : Below w.heap.size w u2 := n3.trans (E2.mono n3.size)
        have sF := E2.size
        have e0 := b8F.cell 0 _ rfl
        have e1 := b8F.cell 1 _ rfl
        have m0 := b6F.cell 0 _ rfl
        have m1 := b6F.cell 1 _ rfl
        have mf0 := b6F.frozen 0
        have mf1 := b6F.frozen 1
        obtain ⟨WF, hWF, bF, hwF, hsF⟩ := box2_fill b6F (.slice t.a t.seats.length t.c) (.int .i64 t.hand)
        have q0 := bF.cell 0 _ rfl
        have q1 := bF.cell 1 _ rfl
        have hoF := (PoolA.own.within oF0 hwF (.inr (by omega))).widen (show w.heap.size ≤ W.heap.size by omega) (show w1.heap.size ≤ WF.heap.size by omega) (Nat.le_refl _)
        have hbF : Below w.heap.size w WF := nF.trans (hwF.below (by omega) (by omega))
        clear hwF hsF bF oF0 b6F b8F HSS
        go_wp2_with fail
        rw [hWF.out]
        exact bodyPost_ret (v := .tuple #[.agg #[.slice t.a t.seats.length t.c, .int .i64 t.hand], .bool false]) (by simp [results, Tryd.results16, go_sem, q0, q1]) rfl ⟨t, false, rfl, HNO, hoF, hbF⟩
      | true =>
        by_cases hlt : pg.lsn < sl
        · have HNO : Hid (changeOf6 p.v no pg.lsn (pg.ss.map (·.v)) = (t.v, false)) := by rw [Hid, change_no (HML.out hlt), HV.out]
          have hltb : decide (pg.lsn < sl) = true := decide_eq_true hlt
          clear HV HML HMA
          have HSS : Hid (∀ u, Below w3.heap.size w3 u → ((u.cell? ⟨w.heap.size, 0, none⟩ = some (.slice p.a p.seats.length p.c) ∧ u.cell? ⟨w.heap.size, 1, none⟩ = some (.int .i64 p.hand)) ∧ u.rangeAt (w.heap.size + 1) 0 pg.cells) ∧ (u.cell? ⟨bp, op + k * 20 + 1, none⟩ = some (.int .i64 sl) ∧ u.cell? ⟨w.heap.size + 1, 0, none⟩ = some (.int .i64 pg.lsn))) := fun u hu => ⟨⟨⟨(b33.below hu b33.lt).cell 0 _ rfl, (b33.below hu b33.lt).cell 1 _ rfl⟩, Box.range [] pg.cells [] (by simpa using b53.below hu b53.lt)⟩, (hu.cell (block_lt hsl)).trans hsl, (b53.below hu b53.lt).cell 0 _ rfl⟩
          refine wp_region_held_drew (S := fun u => ((u.cell? ⟨w.heap.size, 0, none⟩ = some (.slice p.a p.seats.length p.c) ∧ u.cell? ⟨w.heap.size, 1, none⟩ = some (.int .i64 p.hand)) ∧ u.rangeAt (w.heap.size + 1) 0 pg.cells) ∧ (u.cell? ⟨bp, op + k * 20 + 1, none⟩ = some (.int .i64 sl) ∧ u.cell? ⟨w.heap.size + 1, 0, none⟩ = some (.int .i64 pg.lsn))) (by kernel_rfl) ?_ (fun hHeld => ?_)
          · exact HSS.out _ D3
          refine wpAnyH_take (i := 0) (v := .agg #[.slice p.a p.seats.length p.c, .int .i64 p.hand]) rfl (by kernel_rfl) (by kernel_rfl) (by kernel_rfl) (fun _ _ _ h => h) (Or.inl ⟨by rfl, ?_⟩) hHeld ?_
          · intro w' hSw
            have hx0 := hSw.1.1.1
            have hx1 := hSw.1.1.2
            go_simp <;> rfl
          try simp only [Act.put, List.getElem_toArray, List.getElem_cons_zero, List.setIfInBounds_toArray, List.set_cons_zero, List.set_cons_succ]
          refine wpAnyH_ready (rs := [1]) (by kernel_rfl) (by simp) ?_
          refine AllReadyH.cons rfl (fun K hK => ?_) AllReadyH.nil
          go_simp
          have CP := specPoolOk_any p _ (HRP.out _ D3) (PoolA.short_wide hl)
          rw [HOKP] at CP
          simp only [PoolA.cells] at CP
          refine CP.mono ?_
          clear CP
          rintro e u1 ⟨rfl, hbu1⟩
          have E1 : Below w3.heap.size w3 u1 := D3.trans (hbu1.mono D3.size)
          refine hK.out _ _ (HSS.out _ E1) (fun hHeld => ?_)
          clear hK K
          try simp only [Act.put, List.getElem_toArray, List.getElem_cons_zero, List.getElem_cons_succ, List.setIfInBounds_toArray, List.set_cons_zero, List.set_cons_succ]
          refine wpAnyH_take (i := 2) (v := .bool false) rfl (by kernel_rfl) (by kernel_rfl) (by kernel_rfl) (fun _ _ _ h => h) (Or.inl ⟨by rfl, ?_⟩) hHeld ?_
          · intro w' hSw
            go_simp <;> rfl
          try simp only [Act.put, List.getElem_toArray, List.getElem_cons_zero, List.getElem_cons_succ, List.setIfInBounds_toArray, List.set_cons_zero, List.set_cons_succ]
          refine wpAnyH_take (i := 3) (v := .bool false) rfl (by kernel_rfl) (by kernel_rfl) (by kernel_rfl) (fun _ _ _ h => h) (Or.inl ⟨by rfl, ?_⟩) hHeld ?_
          · intro w' hSw
            go_simp <;> rfl
          try simp only [Act.put, List.getElem_toArray, List.getElem_cons_zero, List.getElem_cons_succ, List.setIfInBounds_toArray, List.set_cons_zero, List.set_cons_succ]
          refine wpAnyH_take (i := 4) (v := .int .i64 (k : Int)) rfl (by kernel_rfl) (by kernel_rfl) (by kernel_rfl) (fun _ _ _ h => h) (Or.inl ⟨by rfl, ?_⟩) hHeld ?_
          · intro w' hSw
            go_simp <;> rfl
          try simp only [Act.put, List.getElem_toArray, List.getElem_cons_zero, List.getElem_cons_succ, List.setIfInBounds_toArray, List.set_cons_zero, List.set_cons_succ]
          refine wpAnyH_take (i := 5) (v := .bool false) rfl (by kernel_rfl) (by kernel_rfl) (by kernel_rfl) (fun _ _ _ h => h) (Or.inl ⟨by rfl, ?_⟩) hHeld ?_
          · intro w' hSw
            go_simp <;> rfl
          try simp only [Act.put, List.getElem_toArray, List.getElem_cons_zero, List.getElem_cons_succ, List.setIfInBounds_toArray, List.set_cons_zero, List.set_cons_succ]
          refine wpAnyH_take (i := 6) (v := .bool false) rfl (by kernel_rfl) (by kernel_rfl) (by kernel_rfl) (fun _ _ _ h => h) (Or.inl ⟨by rfl, ?_⟩) hHeld ?_
          · intro w' hSw
            go_simp <;> rfl
          try simp only [Act.put, List.getElem_toArray, List.getElem_cons_zero, List.getElem_cons_succ, List.setIfInBounds_toArray, List.set_cons_zero, List.set_cons_succ]
          refine wpAnyH_take (i := 7) (v := .bool false) rfl (by kernel_rfl) (by kernel_rfl) (by kernel_rfl) (fun _ _ _ h => h) (Or.inl ⟨by rfl, ?_⟩) hHeld ?_
          · intro w' hSw
            go_simp <;> rfl
          try simp only [Act.put, List.getElem_toArray, List.getElem_cons_zero, List.getElem_cons_succ, List.setIfInBounds_toArray, List.set_cons_zero, List.set_cons_succ]
          refine wpAnyH_take (i := 8) rfl (by kernel_rfl) (by kernel_rfl) (by kernel_rfl) (fun _ _ _ h => h) (yieldsIf_load_mid (by rfl) _ _ rfl _ _ rfl pg.cells _ (fun _ h => h.1.2) Tryd.underlying34 rfl HI.out) hHeld ?_
          try simp only [Act.put, List.getElem_toArray, List.getElem_cons_zero, List.getElem_cons_succ, List.setIfInBounds_toArray, List.set_cons_zero, List.set_cons_succ]
          refine wpAnyH_ready (rs := [9]) (by kernel_rfl) (by simp) ?_
          refine AllReadyH.cons rfl (fun K hK => ?_) AllReadyH.nil
          go_simp
          refine (specPageOk_any pg h4 _ (HRG.out _ E1) hlp).mono ?_
          rw [HOKG]
          rintro e u2 ⟨rfl, hbu2⟩
          have E2 : Below w3.heap.size w3 u2 := E1.trans (hbu2.mono E1.size)
          refine hK.out _ _ (HSS.out _ E2) (fun hHeld => ?_)
          clear hK K
          try simp only [Act.put, List.getElem_toArray, List.getElem_cons_zero, List.getElem_cons_succ, List.setIfInBounds_toArray, List.set_cons_zero, List.set_cons_succ]
          refine wpAnyH_take (i := 10) (v := .bool false) rfl (by kernel_rfl) (by kernel_rfl) (by kernel_rfl) (fun _ _ _ h => h) (Or.inl ⟨by rfl, ?_⟩) hHeld ?_
          · intro w' hSw
            go_simp <;> rfl
          try simp only [Act.put, List.getElem_toArray, List.getElem_cons_zero, List.getElem_cons_succ, List.setIfInBounds_toArray, List.set_cons_zero, List.set_cons_succ]
          refine wpAnyH_take (i := 11) (v := .bool false) rfl (by kernel_rfl) (by kernel_rfl) (by kernel_rfl) (fun _ _ _ h => h) (Or.inl ⟨by rfl, ?_⟩) hHeld ?_
          · intro w' hSw
            go_simp <;> rfl
          try simp only [Act.put, List.getElem_toArray, List.getElem_cons_zero, List.getElem_cons_succ, List.setIfInBounds_toArray, List.set_cons_zero, List.set_cons_succ]
          refine wpAnyH_take (i := 12) (v := .bool false) rfl (by kernel_rfl) (by kernel_rfl) (by kernel_rfl) (fun _ _ _ h => h) (Or.inl ⟨by rfl, ?_⟩) hHeld ?_
          · intro w' hSw
            go_simp <;> rfl
          try simp only [Act.put, List.getElem_toArray, List.getElem_cons_zero, List.getElem_cons_succ, List.setIfInBounds_toArray, List.set_cons_zero, List.set_cons_succ]
          refine wpAnyH_take (i := 13) (v := .pointer (some ⟨w.heap.size + 1, 0, none⟩)) rfl (by kernel_rfl) (by kernel_rfl) (by kernel_rfl) (fun _ _ _ h => h) (Or.inl ⟨by rfl, ?_⟩) hHeld ?_
          · intro w' hSw
            go_simp <;> rfl
          try simp only [Act.put, List.getElem_toArray, List.getElem_cons_zero, List.getElem_cons_succ, List.setIfInBounds_toArray, List.set_cons_zero, List.set_cons_succ]
          refine wpAnyH_take (i := 14) (v := .int .i64 pg.lsn) rfl (by kernel_rfl) (by kernel_rfl) (by kernel_rfl) (fun _ _ _ h => h) (Or.inl ⟨by rfl, ?_⟩) hHeld ?_
          · intro w' hSw
            have hx0 := hSw.2.2
            go_simp <;> rfl
          try simp only [Act.put, List.getElem_toArray, List.getElem_cons_zero, List.getElem_cons_succ, List.setIfInBounds_toArray, List.set_cons_zero, List.set_cons_succ]
          refine wpAnyH_take (i := 15) (v := .pointer (some ⟨w.heap.size, 0, none⟩)) rfl (by kernel_rfl) (by kernel_rfl) (by kernel_rfl) (fun _ _ _ h => h) (Or.inl ⟨by rfl, ?_⟩) hHeld ?_
          · intro w' hSw
            go_simp <;> rfl
          try simp only [Act.put, List.getElem_toArray, List.getElem_cons_zero, List.getElem_cons_succ, List.setIfInBounds_toArray, List.set_cons_zero, List.set_cons_succ]
          refine wpAnyH_take (i := 16) (v := .slice p.a p.seats.length p.c) rfl (by kernel_rfl) (by kernel_rfl) (by kernel_rfl) (fun _ _ _ h => h) (Or.inl ⟨by rfl, ?_⟩) hHeld ?_
          · intro w' hSw
            have hx0 := hSw.1.1.1
            go_simp <;> rfl
          try simp only [Act.put, List.getElem_toArray, List.getElem_cons_zero, List.getElem_cons_succ, List.setIfInBounds_toArray, List.set_cons_zero, List.set_cons_succ]
          rw [HPA.out] at hHeld ⊢
          refine wpAnyH_take (i := 17) (v := .int .i64 (k : Int)) rfl (by kernel_rfl) (by kernel_rfl) (by kernel_rfl) (fun _ _ _ h => h) (Or.inl ⟨by rfl, ?_⟩) hHeld ?_
          · intro w' hSw
            go_simp <;> rfl
          try simp only [Act.put, List.getElem_toArray, List.getElem_cons_zero, List.getElem_cons_succ, List.setIfInBounds_toArray, List.set_cons_zero, List.set_cons_succ]
          refine wpAnyH_take (i := 18) (v := .pointer (some ⟨bp, op + k * 20, none⟩)) rfl (by kernel_rfl) (by kernel_rfl) (by kernel_rfl) (fun _ _ _ h => h) (Or.inl ⟨by rfl, ?_⟩) hHeld ?_
          · intro w' hSw
            go_simp <;> rfl
          try simp only [Act.put, List.getElem_toArray, List.getElem_cons_zero, List.getElem_cons_succ, List.setIfInBounds_toArray, List.set_cons_zero, List.set_cons_succ]
          refine wpAnyH_take (i := 19) (v := .pointer (some ⟨bp, op + k * 20 + 1, none⟩)) rfl (by kernel_rfl) (by kernel_rfl) (by kernel_rfl) (fun _ _ _ h => h) (Or.inl ⟨by rfl, ?_⟩) hHeld ?_
          · intro w' hSw
            go_simp <;> rfl
          try simp only [Act.put, List.getElem_toArray, List.getElem_cons_zero, List.getElem_cons_succ, List.setIfInBounds_toArray, List.set_cons_zero, List.set_cons_succ]
          refine wpAnyH_take (i := 20) (v := .pointer (some ⟨bp, op + k * 20 + 1, none⟩)) rfl (by kernel_rfl) (by kernel_rfl) (by kernel_rfl) (fun _ _ _ h => h) (Or.inl ⟨by rfl, ?_⟩) hHeld ?_
          · intro w' hSw
            go_simp <;> rfl
          try simp only [Act.put, List.getElem_toArray, List.getElem_cons_zero, List.getElem_cons_succ, List.setIfInBounds_toArray, List.set_cons_zero, List.set_cons_succ]
          refine wpAnyH_take (i := 21) (v := .int .i64 sl) rfl (by kernel_rfl) (by kernel_rfl) (by kernel_rfl) (fun _ _ _ h => h) (Or.inl ⟨by rfl, ?_⟩) hHeld ?_
          · intro w' hSw
            have hx0 := hSw.2.1
            go_simp <;> rfl
          try simp only [Act.put, List.getElem_toArray, List.getElem_cons_zero, List.getElem_cons_succ, List.setIfInBounds_toArray, List.set_cons_zero, List.set_cons_succ]
          refine wpAnyH_take (i := 22) (v := .bool true) rfl (by kernel_rfl) (by kernel_rfl) (by kernel_rfl) (fun _ _ _ h => h) (Or.inl ⟨by rfl, ?_⟩) hHeld ?_
          · intro w' hSw
            go_simp <;> rfl
          try simp only [Act.put, List.getElem_toArray, List.getElem_cons_zero, List.getElem_cons_succ, List.setIfInBounds_toArray, List.set_cons_zero, List.set_cons_succ]
          refine wpAnyH_take (i := 23) (v := .bool true) rfl (by kernel_rfl) (by kernel_rfl) (by kernel_rfl) (fun _ _ _ h => h) (Or.inl ⟨by rfl, ?_⟩) hHeld ?_
          · intro w' hSw
            go_simp <;> rfl
          try simp only [Act.put, List.getElem_toArray, List.getElem_cons_zero, List.getElem_cons_succ, List.setIfInBounds_toArray, List.set_cons_zero, List.set_cons_succ]
          refine wpAnyH_done (by kernel_rfl) ?_ _
          clear hHeld
          have b6F := b63.below E2 b63.lt
          have b8F := b83.below E2 b83.lt
          have oF0 := PoolA.own.below o3 E2
          have nF : Below w.heap.size w u2 := n3.trans (E2.mono n3.size)
          have sF := E2.size
          have e0 := b8F.cell 0 _ rfl
          have e1 := b8F.cell 1 _ rfl
          have m0 := b6F.cell 0 _ rfl
          have m1 := b6F.cell 1 _ rfl
          have mf0 := b6F.frozen 0
          have mf1 := b6F.frozen 1
          obtain ⟨WF, hWF, bF, hwF, hsF⟩ := box2_fill b6F (.slice t.a t.seats.length t.c) (.int .i64 t.hand)
          have q0 := bF.cell 0 _ rfl
          have q1 := bF.cell 1 _ rfl
          have hoF := (PoolA.own.within oF0 hwF (.inr (by omega))).widen (show w.heap.size ≤ W.heap.size by omega) (show w1.heap.size ≤ WF.heap.size by omega) (Nat.le_refl _)
          have hbF : Below w.heap.size w WF := nF.trans (hwF.below (by omega) (by omega))
          clear hwF hsF bF oF0 b6F b8F HSS
          go_wp2_with fail
          rw [hWF.out]
          exact bodyPost_ret (v := .tuple #[.agg #[.slice t.a t.seats.length t.c, .int .i64 t.hand], .bool false]) (by simp [results, Tryd.results16, go_sem, q0, q1]) rfl ⟨t, false, rfl, HNO, hoF, hbF⟩
        · have HYES : Hid (changeOf6 p.v no pg.lsn (pg.ss.map (·.v)) = _) := HMA.out HOKP HOKG (by omega)
          have hltb : decide (pg.lsn < sl) = false := decide_eq_false hlt
          clear HML HMA
          have HSS : Hid (∀ u, Below w3.heap.size w3 u → ((u.cell? ⟨w.heap.size, 0, none⟩ = some (.slice p.a p.seats.length p.c) ∧ u.cell? ⟨w.heap.size, 1, none⟩ = some (.int .i64 p.hand)) ∧ u.rangeAt (w.heap.size + 1) 0 pg.cells) ∧ (u.cell? ⟨bp, op + k * 20 + 1, none⟩ = some (.int .i64 sl) ∧ u.cell? ⟨w.heap.size + 1, 0, none⟩ = some (.int .i64 pg.lsn))) := fun u hu => ⟨⟨⟨(b33.below hu b33.lt).cell 0 _ rfl, (b33.below hu b33.lt).cell 1 _ rfl⟩, Box.range [] pg.cells [] (by simpa using b53.below hu b53.lt)⟩, (hu.cell (block_lt hsl)).trans hsl, (b53.below hu b53.lt).cell 0 _ rfl⟩
          refine wp_region_held_drew (S := fun u => ((u.cell? ⟨w.heap.size, 0, none⟩ = some (.slice p.a p.seats.length p.c) ∧ u.cell? ⟨w.heap.size, 1, none⟩ = some (.int .i64 p.hand)) ∧ u.rangeAt (w.heap.size + 1) 0 pg.cells) ∧ (u.cell? ⟨bp, op + k * 20 + 1, none⟩ = some (.int .i64 sl) ∧ u.cell? ⟨w.heap.size + 1, 0, none⟩ = some (.int .i64 pg.lsn))) (by kernel_rfl) ?_ (fun hHeld => ?_)
          · exact HSS.out _ D3
          refine wpAnyH_take (i := 0) (v := .agg #[.slice p.a p.seats.length p.c, .int .i64 p.hand]) rfl (by kernel_rfl) (by kernel_rfl) (by kernel_rfl) (fun _ _ _ h => h) (Or.inl ⟨by rfl, ?_⟩) hHeld ?_
          · intro w' hSw
            have hx0 := hSw.1.1.1
            have hx1 := hSw.1.1.2
            go_simp <;> rfl
          try simp only [Act.put, List.getElem_toArray, List.getElem_cons_zero, List.setIfInBounds_toArray, List.set_cons_zero, List.set_cons_succ]
          refine wpAnyH_ready (rs := [1]) (by kernel_rfl) (by simp) ?_
          refine AllReadyH.cons rfl (fun K hK => ?_) AllReadyH.nil
          go_simp
          have CP := specPoolOk_any p _ (HRP.out _ D3) (PoolA.short_wide hl)
          rw [HOKP] at CP
          simp only [PoolA.cells] at CP
          refine CP.mono ?_
          clear CP
          rintro e u1 ⟨rfl, hbu1⟩
          have E1 : Below w3.heap.size w3 u1 := D3.trans (hbu1.mono D3.size)
          refine hK.out _ _ (HSS.out _ E1) (fun hHeld => ?_)
          clear hK K
          try simp only [Act.put, List.getElem_toArray, List.getElem_cons_zero, List.getElem_cons_succ, List.setIfInBounds_toArray, List.set_cons_zero, List.set_cons_succ]
          refine wpAnyH_take (i := 2) (v := .bool false) rfl (by kernel_rfl) (by kernel_rfl) (by kernel_rfl) (fun _ _ _ h => h) (Or.inl ⟨by rfl, ?_⟩) hHeld ?_
          · intro w' hSw
            go_simp <;> rfl
          try simp only [Act.put, List.getElem_toArray, List.getElem_cons_zero, List.getElem_cons_succ, List.setIfInBounds_toArray, List.set_cons_zero, List.set_cons_succ]
          refine wpAnyH_take (i := 3) (v := .bool false) rfl (by kernel_rfl) (by kernel_rfl) (by kernel_rfl) (fun _ _ _ h => h) (Or.inl ⟨by rfl, ?_⟩) hHeld ?_
          · intro w' hSw
            go_simp <;> rfl
          try simp only [Act.put, List.getElem_toArray, List.getElem_cons_zero, List.getElem_cons_succ, List.setIfInBounds_toArray, List.set_cons_zero, List.set_cons_succ]
          refine wpAnyH_take (i := 4) (v := .int .i64 (k : Int)) rfl (by kernel_rfl) (by kernel_rfl) (by kernel_rfl) (fun _ _ _ h => h) (Or.inl ⟨by rfl, ?_⟩) hHeld ?_
          · intro w' hSw
            go_simp <;> rfl
          try simp only [Act.put, List.getElem_toArray, List.getElem_cons_zero, List.getElem_cons_succ, List.setIfInBounds_toArray, List.set_cons_zero, List.set_cons_succ]
          refine wpAnyH_take (i := 5) (v := .bool false) rfl (by kernel_rfl) (by kernel_rfl) (by kernel_rfl) (fun _ _ _ h => h) (Or.inl ⟨by rfl, ?_⟩) hHeld ?_
          · intro w' hSw
            go_simp <;> rfl
          try simp only [Act.put, List.getElem_toArray, List.getElem_cons_zero, List.getElem_cons_succ, List.setIfInBounds_toArray, List.set_cons_zero, List.set_cons_succ]
          refine wpAnyH_take (i := 6) (v := .bool false) rfl (by kernel_rfl) (by kernel_rfl) (by kernel_rfl) (fun _ _ _ h => h) (Or.inl ⟨by rfl, ?_⟩) hHeld ?_
          · intro w' hSw
            go_simp <;> rfl
          try simp only [Act.put, List.getElem_toArray, List.getElem_cons_zero, List.getElem_cons_succ, List.setIfInBounds_toArray, List.set_cons_zero, List.set_cons_succ]
          refine wpAnyH_take (i := 7) (v := .bool false) rfl (by kernel_rfl) (by kernel_rfl) (by kernel_rfl) (fun _ _ _ h => h) (Or.inl ⟨by rfl, ?_⟩) hHeld ?_
          · intro w' hSw
            go_simp <;> rfl
          try simp only [Act.put, List.getElem_toArray, List.getElem_cons_zero, List.getElem_cons_succ, List.setIfInBounds_toArray, List.set_cons_zero, List.set_cons_succ]
          refine wpAnyH_take (i := 8) rfl (by kernel_rfl) (by kernel_rfl) (by kernel_rfl) (fun _ _ _ h => h) (yieldsIf_load_mid (by rfl) _ _ rfl _ _ rfl pg.cells _ (fun _ h => h.1.2) Tryd.underlying34 rfl HI.out) hHeld ?_
          try simp only [Act.put, List.getElem_toArray, List.getElem_cons_zero, List.getElem_cons_succ, List.setIfInBounds_toArray, List.set_cons_zero, List.set_cons_succ]
          refine wpAnyH_ready (rs := [9]) (by kernel_rfl) (by simp) ?_
          refine AllReadyH.cons rfl (fun K hK => ?_) AllReadyH.nil
          go_simp
          refine (specPageOk_any pg h4 _ (HRG.out _ E1) hlp).mono ?_
          rw [HOKG]
          rintro e u2 ⟨rfl, hbu2⟩
          have E2 : Below w3.heap.size w3 u2 := E1.trans (hbu2.mono E1.size)
          refine hK.out _ _ (HSS.out _ E2) (fun hHeld => ?_)
          clear hK K
          try simp only [Act.put, List.getElem_toArray, List.getElem_cons_zero, List.getElem_cons_succ, List.setIfInBounds_toArray, List.set_cons_zero, List.set_cons_succ]
          refine wpAnyH_take (i := 10) (v := .bool false) rfl (by kernel_rfl) (by kernel_rfl) (by kernel_rfl) (fun _ _ _ h => h) (Or.inl ⟨by rfl, ?_⟩) hHeld ?_
          · intro w' hSw
            go_simp <;> rfl
          try simp only [Act.put, List.getElem_toArray, List.getElem_cons_zero, List.getElem_cons_succ, List.setIfInBounds_toArray, List.set_cons_zero, List.set_cons_succ]
          refine wpAnyH_take (i := 11) (v := .bool false) rfl (by kernel_rfl) (by kernel_rfl) (by kernel_rfl) (fun _ _ _ h => h) (Or.inl ⟨by rfl, ?_⟩) hHeld ?_
          · intro w' hSw
            go_simp <;> rfl
          try simp only [Act.put, List.getElem_toArray, List.getElem_cons_zero, List.getElem_cons_succ, List.setIfInBounds_toArray, List.set_cons_zero, List.set_cons_succ]
          refine wpAnyH_take (i := 12) (v := .bool false) rfl (by kernel_rfl) (by kernel_rfl) (by kernel_rfl) (fun _ _ _ h => h) (Or.inl ⟨by rfl, ?_⟩) hHeld ?_
          · intro w' hSw
            go_simp <;> rfl
          try simp only [Act.put, List.getElem_toArray, List.getElem_cons_zero, List.getElem_cons_succ, List.setIfInBounds_toArray, List.set_cons_zero, List.set_cons_succ]
          refine wpAnyH_take (i := 13) (v := .pointer (some ⟨w.heap.size + 1, 0, none⟩)) rfl (by kernel_rfl) (by kernel_rfl) (by kernel_rfl) (fun _ _ _ h => h) (Or.inl ⟨by rfl, ?_⟩) hHeld ?_
          · intro w' hSw
            go_simp <;> rfl
          try simp only [Act.put, List.getElem_toArray, List.getElem_cons_zero, List.getElem_cons_succ, List.setIfInBounds_toArray, List.set_cons_zero, List.set_cons_succ]
          refine wpAnyH_take (i := 14) (v := .int .i64 pg.lsn) rfl (by kernel_rfl) (by kernel_rfl) (by kernel_rfl) (fun _ _ _ h => h) (Or.inl ⟨by rfl, ?_⟩) hHeld ?_
          · intro w' hSw
            have hx0 := hSw.2.2
            go_simp <;> rfl
          try simp only [Act.put, List.getElem_toArray, List.getElem_cons_zero, List.getElem_cons_succ, List.setIfInBounds_toArray, List.set_cons_zero, List.set_cons_succ]
          refine wpAnyH_take (i := 15) (v := .pointer (some ⟨w.heap.size, 0, none⟩)) rfl (by kernel_rfl) (by kernel_rfl) (by kernel_rfl) (fun _ _ _ h => h) (Or.inl ⟨by rfl, ?_⟩) hHeld ?_
          · intro w' hSw
            go_simp <;> rfl
          try simp only [Act.put, List.getElem_toArray, List.getElem_cons_zero, List.getElem_cons_succ, List.setIfInBounds_toArray, List.set_cons_zero, List.set_cons_succ]
          refine wpAnyH_take (i := 16) (v := .slice p.a p.seats.length p.c) rfl (by kernel_rfl) (by kernel_rfl) (by kernel_rfl) (fun _ _ _ h => h) (Or.inl ⟨by rfl, ?_⟩) hHeld ?_
          · intro w' hSw
            have hx0 := hSw.1.1.1
            go_simp <;> rfl
          try simp only [Act.put, List.getElem_toArray, List.getElem_cons_zero, List.getElem_cons_succ, List.setIfInBounds_toArray, List.set_cons_zero, List.set_cons_succ]
          rw [HPA.out] at hHeld ⊢
          refine wpAnyH_take (i := 17) (v := .int .i64 (k : Int)) rfl (by kernel_rfl) (by kernel_rfl) (by kernel_rfl) (fun _ _ _ h => h) (Or.inl ⟨by rfl, ?_⟩) hHeld ?_
          · intro w' hSw
            go_simp <;> rfl
          try simp only [Act.put, List.getElem_toArray, List.getElem_cons_zero, List.getElem_cons_succ, List.setIfInBounds_toArray, List.set_cons_zero, List.set_cons_succ]
          refine wpAnyH_take (i := 18) (v := .pointer (some ⟨bp, op + k * 20, none⟩)) rfl (by kernel_rfl) (by kernel_rfl) (by kernel_rfl) (fun _ _ _ h => h) (Or.inl ⟨by rfl, ?_⟩) hHeld ?_
          · intro w' hSw
            go_simp <;> rfl
          try simp only [Act.put, List.getElem_toArray, List.getElem_cons_zero, List.getElem_cons_succ, List.setIfInBounds_toArray, List.set_cons_zero, List.set_cons_succ]
          refine wpAnyH_take (i := 19) (v := .pointer (some ⟨bp, op + k * 20 + 1, none⟩)) rfl (by kernel_rfl) (by kernel_rfl) (by kernel_rfl) (fun _ _ _ h => h) (Or.inl ⟨by rfl, ?_⟩) hHeld ?_
          · intro w' hSw
            go_simp <;> rfl
          try simp only [Act.put, List.getElem_toArray, List.getElem_cons_zero, List.getElem_cons_succ, List.setIfInBounds_toArray, List.set_cons_zero, List.set_cons_succ]
          refine wpAnyH_take (i := 20) (v := .pointer (some ⟨bp, op + k * 20 + 1, none⟩)) rfl (by kernel_rfl) (by kernel_rfl) (by kernel_rfl) (fun _ _ _ h => h) (Or.inl ⟨by rfl, ?_⟩) hHeld ?_
          · intro w' hSw
            go_simp <;> rfl
          try simp only [Act.put, List.getElem_toArray, List.getElem_cons_zero, List.getElem_cons_succ, List.setIfInBounds_toArray, List.set_cons_zero, List.set_cons_succ]
          refine wpAnyH_take (i := 21) (v := .int .i64 sl) rfl (by kernel_rfl) (by kernel_rfl) (by kernel_rfl) (fun _ _ _ h => h) (Or.inl ⟨by rfl, ?_⟩) hHeld ?_
          · intro w' hSw
            have hx0 := hSw.2.1
            go_simp <;> rfl
          try simp only [Act.put, List.getElem_toArray, List.getElem_cons_zero, List.getElem_cons_succ, List.setIfInBounds_toArray, List.set_cons_zero, List.set_cons_succ]
          refine wpAnyH_take (i := 22) (v := .bool false) rfl (by kernel_rfl) (by kernel_rfl) (by kernel_rfl) (fun _ _ _ h => h) (Or.inl ⟨by rfl, ?_⟩) hHeld ?_
          · intro w' hSw
            go_simp <;> rfl
          try simp only [Act.put, List.getElem_toArray, List.getElem_cons_zero, List.getElem_cons_succ, List.setIfInBounds_toArray, List.set_cons_zero, List.set_cons_succ]
          refine wpAnyH_take (i := 23) (v := .bool false) rfl (by kernel_rfl) (by kernel_rfl) (by kernel_rfl) (fun _ _ _ h => h) (Or.inl ⟨by rfl, ?_⟩) hHeld ?_
          · intro w' hSw
            go_simp <;> rfl
          try simp only [Act.put, List.getElem_toArray, List.getElem_cons_zero, List.getElem_cons_succ, List.setIfInBounds_toArray, List.set_cons_zero, List.set_cons_succ]
          refine wpAnyH_done (by kernel_rfl) ?_ _
          clear hHeld
          have b5U := b53.below E2 b53.lt
          have b6U := b63.below E2 b63.lt
          have b8U := b83.below E2 b83.lt
          have oU := PoolA.own.below o3 E2
          have nU : Below w.heap.size w u2 := n3.trans (E2.mono n3.size)
          have sU := E2.size
          obtain ⟨ts, hand, a, c⟩ := t
          simp only [PoolA.own] at oU
          have hkt : k < ts.length := HKT.out
          obtain ⟨g, rfl⟩ : ∃ g, a = some ⟨g, 0, none⟩ := by
            rcases oU.row.2 with ⟨_, h0⟩ | ⟨g, cap', cur, hv, _⟩
            · omega
            · simp only [Value.slice.injEq] at hv; exact ⟨g, hv.1⟩
          have hgl := (oU.blocks_lt g (by simp [blocksSts, Value.ownBlock]))
          have hkk2 : (k : Int) < (ts.length : Int) := by omega
          clear HSS
          go_upto_region 5 with fail
          have D5 : Below u2.heap.size u2 u2.drew := (Below.refl _ _).drew
          have HS5 : Hid (∀ x, Below u2.heap.size u2 x → x.cell? ⟨w1.heap.size, 0, none⟩ = some (.slice (some ⟨g, 0, none⟩) ts.length c) ∧ x.rangeAt (w.heap.size + 1) 0 pg.cells) := fun x hx => ⟨(b8U.below hx b8U.lt).cell 0 _ rfl, Box.range [] pg.cells [] (by simpa using b5U.below hx b5U.lt)⟩
          refine wp_region_held_drew (S := fun x => x.cell? ⟨w1.heap.size, 0, none⟩ = some (.slice (some ⟨g, 0, none⟩) ts.length c) ∧ x.rangeAt (w.heap.size + 1) 0 pg.cells) (by kernel_rfl) ?_ (fun hHeld => ?_)
          · exact HS5.out _ D5
          refine wpAnyH_take (i := 0) (v := .pointer (some ⟨w1.heap.size, 0, none⟩)) rfl (by kernel_rfl) (by kernel_rfl) (by kernel_rfl) (fun _ _ _ h => h) (Or.inl ⟨by rfl, ?_⟩) hHeld ?_
          · intro w' hSw
            go_simp <;> rfl
          try simp only [Act.put, List.getElem_toArray, List.getElem_cons_zero, List.setIfInBounds_toArray, List.set_cons_zero, List.set_cons_succ]
          refine wpAnyH_take (i := 1) (v := .slice (some ⟨g, 0, none⟩) ts.length c) rfl (by kernel_rfl) (by kernel_rfl) (by kernel_rfl) (fun _ _ _ h => h) (Or.inl ⟨by rfl, ?_⟩) hHeld ?_
          · intro w' hSw
            have hx0 := hSw.1
            go_simp <;> rfl
          try simp only [Act.put, List.getElem_toArray, List.getElem_cons_zero, List.getElem_cons_succ, List.setIfInBounds_toArray, List.set_cons_zero, List.set_cons_succ]
          refine wpAnyH_take (i := 2) (v := .int .i64 (k : Int)) rfl (by kernel_rfl) (by kernel_rfl) (by kernel_rfl) (fun _ _ _ h => h) (Or.inl ⟨by rfl, ?_⟩) hHeld ?_
          · intro w' hSw
            go_simp <;> rfl
          try simp only [Act.put, List.getElem_toArray, List.getElem_cons_zero, List.getElem_cons_succ, List.setIfInBounds_toArray, List.set_cons_zero, List.set_cons_succ]
          refine wpAnyH_take (i := 3) (v := .int .i64 no) rfl (by kernel_rfl) (by kernel_rfl) (by kernel_rfl) (fun _ _ _ h => h) (Or.inl ⟨by rfl, ?_⟩) hHeld ?_
          · intro w' hSw
            go_simp <;> rfl
          try simp only [Act.put, List.getElem_toArray, List.getElem_cons_zero, List.getElem_cons_succ, List.setIfInBounds_toArray, List.set_cons_zero, List.set_cons_succ]
          refine wpAnyH_take (i := 4) rfl (by kernel_rfl) (by kernel_rfl) (by kernel_rfl) (fun _ _ _ h => h) (yieldsIf_load_mid (by rfl) _ _ rfl _ _ rfl pg.cells _ (fun _ h => h.2) Tryd.underlying34 rfl HI.out) hHeld ?_
          try simp only [Act.put, List.getElem_toArray, List.getElem_cons_zero, List.getElem_cons_succ, List.setIfInBounds_toArray, List.set_cons_zero, List.set_cons_succ]
          refine wpAnyH_ready (rs := [5]) (by kernel_rfl) (by simp) ?_
          refine AllReadyH.cons rfl (fun K hK => ?_) AllReadyH.nil
          go_simp
          refine (l3Copy_own pg h4 _ (HRG.out _ (E2.trans (D5.mono E2.size))) hlp).mono ?_
          rintro e v1 ⟨us, rfl, hus, ous, hbv⟩
          have DV : Below u2.heap.size u2 v1 := D5.trans (hbv.mono D5.size)
          refine hK.out _ _ (HS5.out _ DV) (fun hHeld => ?_)
          clear hK K
          try simp only [Act.put, List.getElem_toArray, List.getElem_cons_zero, List.getElem_cons_succ, List.setIfInBounds_toArray, List.set_cons_zero, List.set_cons_succ]
          obtain ⟨y0, y1, y2, y3, rfl⟩ := four_slots' (ts := us) (by have := congrArg List.length hus.out; simpa [h4] using this)
          obtain ⟨q, hq⟩ : ∃ q : SeatA, Hid ((⟨no, pg.lsn, y0, y1, y2, y3, true, true⟩ : SeatA) = q) := ⟨_, rfl⟩
          have HQV : Hid (q.v = ⟨no, pg.lsn, pg.ss.map (·.v), true, true⟩) := by rw [Hid, ← hq.out, ← hus.out]; rfl
          have oq : q.own v1 u2.drew.heap.size v1.heap.size := by rw [← hq.out]; exact ous
          refine wpAnyH_take (i := 6) (v := .agg q.cells.toArray) rfl (by kernel_rfl) (by kernel_rfl) (by kernel_rfl) (fun _ _ _ h => h) (Or.inl ⟨by rfl, ?_⟩) hHeld ?_
          · intro w' hSw
            have e9 := run_buildSt w' no pg.lsn y0 y1 y2 y3
            rw [hq.out] at e9
            refine run_nextP ?_
            simp only [List.map_toArray, List.map_cons, List.map_nil]
            exact e9
          try simp only [Act.put, List.getElem_toArray, List.getElem_cons_zero, List.getElem_cons_succ, List.setIfInBounds_toArray, List.set_cons_zero, List.set_cons_succ]
          refine wpAnyH_take (i := 7) (v := .pointer (some ⟨g, k * 20, none⟩)) rfl (by kernel_rfl) (by kernel_rfl) (by kernel_rfl) (fun _ _ _ h => h) (Or.inl ⟨by rfl, ?_⟩) hHeld ?_
          · intro w' hSw
            go_simp <;> rfl
          try simp only [Act.put, List.getElem_toArray, List.getElem_cons_zero, List.getElem_cons_succ, List.setIfInBounds_toArray, List.set_cons_zero, List.set_cons_succ]
          have b6V := b6U.below DV b6U.lt
          have b8V := b8U.below DV b8U.lt
          have b5V := b5U.below DV b5U.lt
          have oV := oU.below DV
          have nV : Below w.heap.size w v1 := nU.trans (DV.mono nU.size)
          have sV := DV.size
          have hkl : (ts.take k).length = k := by rw [List.length_take]; omega
          obtain ⟨WS, hWS, oS, tS, hsS⟩ := OwnSts.fill (A := ts.take k) (z := ts.getD k zeroSt) (B := ts.drop (k + 1)) (by rw [← seatD_split ts k hkt]; exact oV) q oq (by have := D5.size; omega) (by omega) (Nat.le_refl _)
          rw [hkl] at hWS
          rw [← seat_set ts k q hkt] at oS
          have HWS : Hid (v1.setCells g (k * 20) q.cells.toArray.toList = WS) := hWS.out
          have HTS : v1.there g (k * 20) q.cells.toArray.size := (row_seat oV.row rfl k hkt).2
          have hsSa := Nat.le_of_eq hsS
          have hsSb := Nat.le_of_eq hsS.symm
          have b6S := b6V.touch tS (by simp; omega)
          have b8S := b8V.touch tS (by simp; omega)
          have b5S := b5V.touch tS (by simp; omega)
          have nS : Below w.heap.size w WS := nV.trans ((tS.within (lo := W.heap.size) (hi := w1.heap.size) (fun j hj => by obtain rfl := List.mem_singleton.1 hj; exact hgl)).below (by omega) (by omega))
          have KS : WS.cell? ⟨w1.heap.size, 0, none⟩ = some (.slice (some ⟨g, 0, none⟩) ts.length c) ∧ WS.rangeAt (w.heap.size + 1) 0 pg.cells := ⟨b8S.cell 0 _ rfl, Box.range [] pg.cells [] (by simpa using b5S)⟩
          refine wpAnyH_ready (rs := [8]) (by kernel_rfl) (by simp) ?_
          refine AllReadyH.cons rfl (fun K hK => ?_) AllReadyH.nil
          rw [if_pos (by rfl)]
          refine wp_store_mid 38 (.tmp 47) (.tmp 46) rfl g (k * 20) q.cells.toArray rfl rfl HTS (seat_info q) (seat_one q) ?_
          rw [HWS.out]
          refine hK.out _ _ KS (fun hHeld => ?_)
          clear hK K
          try simp only [Act.put, List.getElem_toArray, List.getElem_cons_zero, List.getElem_cons_succ]
          refine wpAnyH_done (by kernel_rfl) ?_ _
          clear hHeld KS HWS HTS hWS hsS b5S b6V b8V b5V oV b5U b6U b8U oU D5 DV HS5 nV nU
          have e0 := b8S.cell 0 _ rfl
          have e1 := b8S.cell 1 _ rfl
          have m0 := b6S.cell 0 _ rfl
          have m1 := b6S.cell 1 _ rfl
          have mf0 := b6S.frozen 0
          have mf1 := b6S.frozen 1
          obtain ⟨WF, hWF, bF, hwF, hsF⟩ := box2_fill b6S (.slice (some ⟨g, 0, none⟩) ts.length c) (.int .i64 hand)
          have q0 := bF.cell 0 _ rfl
          have q1 := bF.cell 1 _ rfl
          have hoF := (oS.within hwF (.inr (by omega))).widen (show w.heap.size ≤ W.heap.size by omega) (show max w1.heap.size v1.heap.size ≤ WF.heap.size by omega) (Nat.le_refl _)
          have hbF : Below w.heap.size w WF := nS.trans (hwF.below (by omega) (by omega))
          have HFIN : Hid (changeOf6 p.v no pg.lsn (pg.ss.map (·.v)) = (PoolA.v ⟨ts.set k q, hand, some ⟨g, 0, none⟩, c⟩, true)) := by
            rw [Hid, HYES.out, setSeatV, ← HV.out]
            simp only [PoolA.v, List.map_set, HQV.out]
          have HLN : Hid ((ts.set k q).length = ts.length) := by rw [Hid]; simp
          clear hwF hsF bF oS tS b6S b8S HYES HV HQV hq
          generalize ts.set k q = us at *
          go_wp2_with fail
          rw [hWF.out]
          exact bodyPost_ret (v := .tuple #[.agg #[.slice (some ⟨g, 0, none⟩) ts.length c, .int .i64 hand], .bool true]) (by simp [results, Tryd.results16, go_sem, q0, q1]) rfl ⟨⟨us, hand, some ⟨g, 0, none⟩, c⟩, true, by simp only [PoolA.cells, HLN.out], HFIN, hoF, hbF⟩

set_option maxHeartbeats 8000000 in
set_option maxRecDepth 100000 in
theorem implChange_any (p : PoolA) (no : Int) (pg : PageA) (h4 : pg.ss.length = 4) (w : World) (hg : ErrT w) (hr : p.reads w) (hl : p.short 1048576) (hrp : ReadsS w pg.ss) (hlp : Fit pg.ss) :
    Calls Tryd.prog 15 #[.agg p.cells.toArray, .int .i64 no, .agg pg.cells.toArray] w fun e w' => ChangeAns p no pg.lsn (pg.ss.map (·.v)) w e w' := by
  obtain ⟨W, hW, b3, b5, b6, hbW, hsW⟩ := boxes3 w [.slice p.a p.seats.length p.c, .int .i64 p.hand] pg.cells [.slice none 0 0, .int .i64 0] 26 34 26
  have hs0 : w.heap.size + 1 + 1 < W.heap.size := by omega
  have p0 := b3.cell 0 _ rfl
  have p1 := b3.cell 1 _ rfl
  have C := copyPool_any p W (PoolA.reads.below hr hbW) hl
  have HI : Hid ((Tryd.prog.info? 34).map (·.size) = some pg.cells.length) := Tryd.infoPg pg h4
  simp only [PoolA.cells] at *
  clear hsW
  go_enter Tryd.func15, Tryd.ntmps15
  go_upto_region 1 with fail
  rw [hW.out]
  clear hW
  go_wp2_with fail
  refine C.mono ?_
  clear C p0 p1
  rintro e w1 ⟨t, rfl, hv, ho, hb1⟩
  have hs1 := hb1.size
  have b31 := b3.below hb1 b3.lt
  have b51 := b5.below hb1 b5.lt
  have b61 := b6.below hb1 b6.lt
  obtain ⟨W2, hW2, b8, hb2, hs2⟩ := boxes1 w1 [.slice t.a t.seats.length t.c, .int .i64 t.hand] 26
  have b32 := b31.below hb2 b31.lt
  have b52 := b51.below hb2 b51.lt
  have b62 := b61.below hb2 b61.lt
  have o2 := PoolA.own.below ho hb2
  have n2 : Below w.heap.size w W2 := (hbW.trans (hb1.mono (by omega))).trans (hb2.mono (by omega))
  have hs2' := b8.lt
  clear b3 b5 b6 b31 b51 b61 ho hb1 hb2 hs2 hbW
  go_upto_region 2 with fail
  rw [hW2.out]
  clear hW2
  have p0 := b32.cell 0 _ rfl
  have p1 := b32.cell 1 _ rfl
  have C := implSeated_any p no W2 (PoolA.reads.below hr n2) (PoolA.short_wide hl)
  simp only [PoolA.cells] at C
  have HV : Hid (t.v = p.v) := hv.out
  clear hv
  go_wp2_with fail
  refine C.mono ?_
  clear C p0 p1
  rintro e w3 ⟨rfl, hb3⟩
  have hs3 := hb3.size
  have b33 := b32.below hb3 b32.lt
  have b53 := b52.below hb3 b52.lt
  have b63 := b62.below hb3 b62.lt
  have b83 := b8.below hb3 b8.lt
  have o3 := PoolA.own.below o2 hb3
  have n3 : Below w.heap.size w w3 := n2.trans (hb3.mono n2.size)
  have HRP : Hid (∀ u, Below w3.heap.size w3 u → PoolA.reads u p) := fun u hu => PoolA.reads.below hr (n3.trans (hu.mono n3.size))
  have HRG : Hid (∀ u, Below w3.heap.size w3 u → ReadsS u pg.ss) := fun u hu => hrp.below (n3.trans (hu.mono n3.size))
  have HGB : Hid (∀ u, Below w3.heap.size w3 u → ErrT u) := fun u hu => hg.keep (n3.trans (hu.mono n3.size))
  have D3 : Below w3.heap.size w3 w3.drew := (Below.refl _ _).drew
  clear b32 b52 b62 b8 o2 n2 hb3
  rcases seated_cases p.v.seats no with ⟨k, hk, _, _, hsk⟩ | ⟨_, hsk⟩
  case inr =>
    have HNO : Hid (changeOf6 p.v no pg.lsn (pg.ss.map (·.v)) = (t.v, false)) := by rw [Hid, change_no (may_none hsk), HV.out]
    rw [hsk]
    clear hsk HV
    go_upto_region 3 with fail
    have HSS : Hid (∀ u, Below w3.heap.size w3 u → ((u.cell? ⟨w.heap.size, 0, none⟩ = some (.slice p.a p.seats.length p.c) ∧ u.cell? ⟨w.heap.size, 1, none⟩ = some (.int .i64 p.hand)) ∧ u.rangeAt (w.heap.size + 1) 0 pg.cells) ∧ True) := fun u hu => ⟨⟨⟨(b33.below hu b33.lt).cell 0 _ rfl, (b33.below hu b33.lt).cell 1 _ rfl⟩, Box.range [] pg.cells [] (by simpa using b53.below hu b53.lt)⟩, trivial⟩
    refine wp_region_held_drew (S := fun u => ((u.cell? ⟨w.heap.size, 0, none⟩ = some (.slice p.a p.seats.length p.c) ∧ u.cell? ⟨w.heap.size, 1, none⟩ = some (.int .i64 p.hand)) ∧ u.rangeAt (w.heap.size + 1) 0 pg.cells) ∧ True) (by kernel_rfl) ?_ (fun hHeld => ?_)
    · exact HSS.out _ D3
    refine wpAnyH_take (i := 0) (v := .int .i64 (-1)) rfl (by kernel_rfl) (by kernel_rfl) (by kernel_rfl) (fun _ _ _ h => h) (Or.inl ⟨by rfl, ?_⟩) hHeld ?_
    · intro w' hSw
      go_simp <;> rfl
    try simp only [Act.put, List.getElem_toArray, List.getElem_cons_zero, List.setIfInBounds_toArray, List.set_cons_zero, List.set_cons_succ]
    refine wpAnyH_take (i := 1) (v := .bool true) rfl (by kernel_rfl) (by kernel_rfl) (by kernel_rfl) (fun _ _ _ h => h) (Or.inl ⟨by rfl, ?_⟩) hHeld ?_
    · intro w' hSw
      go_simp <;> rfl
    try simp only [Act.put, List.getElem_toArray, List.getElem_cons_zero, List.getElem_cons_succ, List.setIfInBounds_toArray, List.set_cons_zero, List.set_cons_succ]
    refine wpAnyH_take (i := 2) (v := .bool true) rfl (by kernel_rfl) (by kernel_rfl) (by kernel_rfl) (fun _ _ _ h => h) (Or.inl ⟨by rfl, ?_⟩) hHeld ?_
    · intro w' hSw
      go_simp <;> rfl
    try simp only [Act.put, List.getElem_toArray, List.getElem_cons_zero, List.getElem_cons_succ, List.setIfInBounds_toArray, List.set_cons_zero, List.set_cons_succ]
    refine wpAnyH_take (i := 3) (v := undef) rfl (by kernel_rfl) (by kernel_rfl) (by kernel_rfl) (fun _ _ _ h => h) (Or.inr ⟨by rfl, rfl⟩) hHeld ?_
    try simp only [Act.put, List.getElem_toArray, List.getElem_cons_zero, List.getElem_cons_succ, List.setIfInBounds_toArray, List.set_cons_zero, List.set_cons_succ]
    refine wpAnyH_take (i := 4) (v := undef) rfl (by kernel_rfl) (by kernel_rfl) (by kernel_rfl) (fun _ _ _ h => h) (Or.inr ⟨by rfl, rfl⟩) hHeld ?_
    try simp only [Act.put, List.getElem_toArray, List.getElem_cons_zero, List.getElem_cons_succ, List.setIfInBounds_toArray, List.set_cons_zero, List.set_cons_succ]
    refine wpAnyH_take (i := 5) (v := undef) rfl (by kernel_rfl) (by kernel_rfl) (by kernel_rfl) (fun _ _ _ h => h) (Or.inr ⟨by rfl, rfl⟩) hHeld ?_
    try simp only [Act.put, List.getElem_toArray, List.getElem_cons_zero, List.getElem_cons_succ, List.setIfInBounds_toArray, List.set_cons_zero, List.set_cons_succ]
    refine wpAnyH_take (i := 6) (v := .bool true) rfl (by kernel_rfl) (by kernel_rfl) (by kernel_rfl) (fun _ _ _ h => h) (Or.inl ⟨by rfl, ?_⟩) hHeld ?_
    · intro w' hSw
      go_simp <;> rfl
    try simp only [Act.put, List.getElem_toArray, List.getElem_cons_zero, List.getElem_cons_succ, List.setIfInBounds_toArray, List.set_cons_zero, List.set_cons_succ]
    refine wpAnyH_take (i := 7) (v := .bool true) rfl (by kernel_rfl) (by kernel_rfl) (by kernel_rfl) (fun _ _ _ h => h) (Or.inl ⟨by rfl, ?_⟩) hHeld ?_
    · intro w' hSw
      go_simp <;> rfl
    try simp only [Act.put, List.getElem_toArray, List.getElem_cons_zero, List.getElem_cons_succ, List.setIfInBounds_toArray, List.set_cons_zero, List.set_cons_succ]
    refine wpAnyH_take (i := 8) (v := undef) rfl (by kernel_rfl) (by kernel_rfl) (by kernel_rfl) (fun _ _ _ h => h) (Or.inr ⟨by rfl, rfl⟩) hHeld ?_
    try simp only [Act.put, List.getElem_toArray, List.getElem_cons_zero, List.getElem_cons_succ, List.setIfInBounds_toArray, List.set_cons_zero, List.set_cons_succ]
    refine wpAnyH_take (i := 9) (v := undef) rfl (by kernel_rfl) (by kernel_rfl) (by kernel_rfl) (fun _ _ _ h => h) (Or.inr ⟨by rfl, rfl⟩) hHeld ?_
    try simp only [Act.put, List.getElem_toArray, List.getElem_cons_zero, List.getElem_cons_succ, List.setIfInBounds_toArray, List.set_cons_zero, List.set_cons_succ]
    refine wpAnyH_take (i := 10) (v := undef) rfl (by kernel_rfl) (by kernel_rfl) (by kernel_rfl) (fun _ _ _ h => h) (Or.inr ⟨by rfl, rfl⟩) hHeld ?_
    try simp only [Act.put, List.getElem_toArray, List.getElem_cons_zero, List.getElem_cons_succ, List.setIfInBounds_toArray, List.set_cons_zero, List.set_cons_succ]
    refine wpAnyH_take (i := 11) (v := .bool true) rfl (by kernel_rfl) (by kernel_rfl) (by kernel_rfl) (fun _ _ _ h => h) (Or.inl ⟨by rfl, ?_⟩) hHeld ?_
    · intro w' hSw
      go_simp <;> rfl
    try simp only [Act.put, List.getElem_toArray, List.getElem_cons_zero, List.getElem_cons_succ, List.setIfInBounds_toArray, List.set_cons_zero, List.set_cons_succ]
    refine wpAnyH_take (i := 12) (v := .bool true) rfl (by kernel_rfl) (by kernel_rfl) (by kernel_rfl) (fun _ _ _ h => h) (Or.inl ⟨by rfl, ?_⟩) hHeld ?_
    · intro w' hSw
      go_simp <;> rfl
    try simp only [Act.put, List.getElem_toArray, List.getElem_cons_zero, List.getElem_cons_succ, List.setIfInBounds_toArray, List.set_cons_zero, List.set_cons_succ]
    refine wpAnyH_take (i := 13) (v := undef) rfl (by kernel_rfl) (by kernel_rfl) (by kernel_rfl) (fun _ _ _ h => h) (Or.inr ⟨by rfl, rfl⟩) hHeld ?_
    try simp only [Act.put, List.getElem_toArray, List.getElem_cons_zero, List.getElem_cons_succ, List.setIfInBounds_toArray, List.set_cons_zero, List.set_cons_succ]
    refine wpAnyH_take (i := 14) (v := undef) rfl (by kernel_rfl) (by kernel_rfl) (by kernel_rfl) (fun _ _ _ h => h) (Or.inr ⟨by rfl, rfl⟩) hHeld ?_
    try simp only [Act.put, List.getElem_toArray, List.getElem_cons_zero, List.getElem_cons_succ, List.setIfInBounds_toArray, List.set_cons_zero, List.set_cons_succ]
    refine wpAnyH_take (i := 15) (v := undef) rfl (by kernel_rfl) (by kernel_rfl) (by kernel_rfl) (fun _ _ _ h => h) (Or.inr ⟨by rfl, rfl⟩) hHeld ?_
    try simp only [Act.put, List.getElem_toArray, List.getElem_cons_zero, List.getElem_cons_succ, List.setIfInBounds_toArray, List.set_cons_zero, List.set_cons_succ]
    refine wpAnyH_take (i := 16) (v := undef) rfl (by kernel_rfl) (by kernel_rfl) (by kernel_rfl) (fun _ _ _ h => h) (Or.inr ⟨by rfl, rfl⟩) hHeld ?_
    try simp only [Act.put, List.getElem_toArray, List.getElem_cons_zero, List.getElem_cons_succ, List.setIfInBounds_toArray, List.set_cons_zero, List.set_cons_succ]
    refine wpAnyH_take (i := 17) (v := undef) rfl (by kernel_rfl) (by kernel_rfl) (by kernel_rfl) (fun _ _ _ h => h) (Or.inr ⟨by rfl, rfl⟩) hHeld ?_
    try simp only [Act.put, List.getElem_toArray, List.getElem_cons_zero, List.getElem_cons_succ, List.setIfInBounds_toArray, List.set_cons_zero, List.set_cons_succ]
    refine wpAnyH_take (i := 18) (v := undef) rfl (by kernel_rfl) (by kernel_rfl) (by kernel_rfl) (fun _ _ _ h => h) (Or.inr ⟨by rfl, rfl⟩) hHeld ?_
    try simp only [Act.put, List.getElem_toArray, List.getElem_cons_zero, List.getElem_cons_succ, List.setIfInBounds_toArray, List.set_cons_zero, List.set_cons_succ]
    refine wpAnyH_take (i := 19) (v := undef) rfl (by kernel_rfl) (by kernel_rfl) (by kernel_rfl) (fun _ _ _ h => h) (Or.inr ⟨by rfl, rfl⟩) hHeld ?_
    try simp only [Act.put, List.getElem_toArray, List.getElem_cons_zero, List.getElem_cons_succ, List.setIfInBounds_toArray, List.set_cons_zero, List.set_cons_succ]
    refine wpAnyH_take (i := 20) (v := undef) rfl (by kernel_rfl) (by kernel_rfl) (by kernel_rfl) (fun _ _ _ h => h) (Or.inr ⟨by rfl, rfl⟩) hHeld ?_
    try simp only [Act.put, List.getElem_toArray, List.getElem_cons_zero, List.getElem_cons_succ, List.setIfInBounds_toArray, List.set_cons_zero, List.set_cons_succ]
    refine wpAnyH_take (i := 21) (v := undef) rfl (by kernel_rfl) (by kernel_rfl) (by kernel_rfl) (fun _ _ _ h => h) (Or.inr ⟨by rfl, rfl⟩) hHeld ?_
    try simp only [Act.put, List.getElem_toArray, List.getElem_cons_zero, List.getElem_cons_succ, List.setIfInBounds_toArray, List.set_cons_zero, List.set_cons_succ]
    refine wpAnyH_take (i := 22) (v := undef) rfl (by kernel_rfl) (by kernel_rfl) (by kernel_rfl) (fun _ _ _ h => h) (Or.inr ⟨by rfl, rfl⟩) hHeld ?_
    try simp only [Act.put, List.getElem_toArray, List.getElem_cons_zero, List.getElem_cons_succ, List.setIfInBounds_toArray, List.set_cons_zero, List.set_cons_succ]
    refine wpAnyH_take (i := 23) (v := .bool true) rfl (by kernel_rfl) (by kernel_rfl) (by kernel_rfl) (fun _ _ _ h => h) (Or.inl ⟨by rfl, ?_⟩) hHeld ?_
    · intro w' hSw
      go_simp <;> rfl
    try simp only [Act.put, List.getElem_toArray, List.getElem_cons_zero, List.getElem_cons_succ, List.setIfInBounds_toArray, List.set_cons_zero, List.set_cons_succ]
    refine wpAnyH_done (by kernel_rfl) ?_ _
    obtain ⟨vv, hvv⟩ : ∃ vv, Hid (w3.drew = vv) := ⟨_, rfl⟩
    have D3v : Below w3.heap.size w3 vv := by rw [← hvv.out]; exact D3
    rw [hvv.out] at hHeld ⊢
    clear hvv
    clear hHeld
    have b6F := b63.below D3v b63.lt
    have b8F := b83.below D3v b83.lt
    have oF0 := PoolA.own.below o3 D3v
    have nF : Below w.heap.size w vv := n3.trans (D3v.mono n3.size)
    have sF := D3v.size
    have e0 := b8F.cell 0 _ rfl
    have e1 := b8F.cell 1 _ rfl
    have m0 := b6F.cell 0 _ rfl
    have m1 := b6F.cell 1 _ rfl
    have mf0 := b6F.frozen 0
    have mf1 := b6F.frozen 1
    obtain ⟨WF, hWF, bF, hwF, hsF⟩ := box2_fill b6F (.slice t.a t.seats.length t.c) (.int .i64 t.hand)
    have q0 := bF.cell 0 _ rfl
    have q1 := bF.cell 1 _ rfl
    have hoF := (PoolA.own.within oF0 hwF (.inr (by omega))).widen (show w.heap.size ≤ W.heap.size by omega) (show w1.heap.size ≤ WF.heap.size by omega) (Nat.le_refl _)
    have hbF : Below w.heap.size w WF := nF.trans (hwF.below (by omega) (by omega))
    clear hwF hsF bF oF0 b6F b8F HSS
    go_wp2_with fail
    rw [hWF.out]
    exact bodyPost_ret (v := .tuple #[.agg #[.slice t.a t.seats.length t.c, .int .i64 t.hand], .bool false]) (by simp [results, Tryd.results15, go_sem, q0, q1]) rfl ⟨t, false, rfl, HNO, hoF, hbF⟩
  case inl =>
    have hkp : k < p.seats.length := by simpa [PoolA.v] using hk
    have HKT : Hid (k < t.seats.length) := by
      have e := congrArg (fun v => v.seats.length) HV.out
      simp only [PoolA.v, List.length_map] at e
      rw [Hid]; omega
    obtain ⟨bp, op, hpa, hcell⟩ := (HRP.out w3 (Below.refl _ _)) (by intro e; rw [e] at hkp; simp at hkp)
    have hsl : w3.cell? ⟨bp, op + k * 20 + 1, none⟩ = some (.int .i64 (p.seats.getD k zeroSt).lsn) := (hcell k hkp).1 1 _ rfl
    have HPA : Hid (p.a = some ⟨bp, op, none⟩) := hpa
    have hkk : (k : Int) < (p.seats.length : Int) := by omega
    have hk0 : (0 : Int) ≤ (k : Int) := by omega
    have HML : Hid (pg.lsn < (p.seats.getD k zeroSt).lsn → mayChange p.v no pg.lsn (pg.ss.map (·.v)) = false) := fun h => may_lsn hsk h
    have HMA : Hid (okPool p.v = true → okP pg.lsn (pg.ss.map (·.v)) = true → ¬ pg.lsn < (p.seats.getD k zeroSt).lsn → changeOf6 p.v no pg.lsn (pg.ss.map (·.v)) = (setSeatV p.v k (fun _ => ⟨no, pg.lsn, pg.ss.map (·.v), true, true⟩), true)) := fun h1 h2 h3 => change_yes (may_all h1 hsk h2 h3) hsk
    rw [hsk]
    clear hsk hcell hpa hk
    generalize (p.seats.getD k zeroSt).lsn = sl at *
    go_upto_region 3 with fail
    cases HOKP : okPool p.v with
    | false =>
      have HNO : Hid (changeOf6 p.v no pg.lsn (pg.ss.map (·.v)) = (t.v, false)) := by rw [Hid, change_no (may_pool HOKP), HV.out]
      clear HV HML HMA
      have HSS : Hid (∀ u, Below w3.heap.size w3 u → ((u.cell? ⟨w.heap.size, 0, none⟩ = some (.slice p.a p.seats.length p.c) ∧ u.cell? ⟨w.heap.size, 1, none⟩ = some (.int .i64 p.hand)) ∧ u.rangeAt (w.heap.size + 1) 0 pg.cells) ∧ (u.cell? ⟨bp, op + k * 20 + 1, none⟩ = some (.int .i64 sl) ∧ u.cell? ⟨w.heap.size + 1, 0, none⟩ = some (.int .i64 pg.lsn))) := fun u hu => ⟨⟨⟨(b33.below hu b33.lt).cell 0 _ rfl, (b33.below hu b33.lt).cell 1 _ rfl⟩, Box.range [] pg.cells [] (by simpa using b53.below hu b53.lt)⟩, (hu.cell (block_lt hsl)).trans hsl, (b53.below hu b53.lt).cell 0 _ rfl⟩
      refine wp_region_held_drew (S := fun u => ((u.cell? ⟨w.heap.size, 0, none⟩ = some (.slice p.a p.seats.length p.c) ∧ u.cell? ⟨w.heap.size, 1, none⟩ = some (.int .i64 p.hand)) ∧ u.rangeAt (w.heap.size + 1) 0 pg.cells) ∧ (u.cell? ⟨bp, op + k * 20 + 1, none⟩ = some (.int .i64 sl) ∧ u.cell? ⟨w.heap.size + 1, 0, none⟩ = some (.int .i64 pg.lsn))) (by kernel_rfl) ?_ (fun hHeld => ?_)
      · exact HSS.out _ D3
      refine wpAnyH_take (i := 0) (v := .int .i64 (k : Int)) rfl (by kernel_rfl) (by kernel_rfl) (by kernel_rfl) (fun _ _ _ h => h) (Or.inl ⟨by rfl, ?_⟩) hHeld ?_
      · intro w' hSw
        go_simp <;> rfl
      try simp only [Act.put, List.getElem_toArray, List.getElem_cons_zero, List.setIfInBounds_toArray, List.set_cons_zero, List.set_cons_succ]
      refine wpAnyH_take (i := 1) (v := .bool false) rfl (by kernel_rfl) (by kernel_rfl) (by kernel_rfl) (fun _ _ _ h => h) (Or.inl ⟨by rfl, ?_⟩) hHeld ?_
      · intro w' hSw
        go_simp <;> rfl
      try simp only [Act.put, List.getElem_toArray, List.getElem_cons_zero, List.getElem_cons_succ, List.setIfInBounds_toArray, List.set_cons_zero, List.set_cons_succ]
      refine wpAnyH_take (i := 2) (v := .bool false) rfl (by kernel_rfl) (by kernel_rfl) (by kernel_rfl) (fun _ _ _ h => h) (Or.inl ⟨by rfl, ?_⟩) hHeld ?_
      · intro w' hSw
        go_simp <;> rfl
      try simp only [Act.put, List.getElem_toArray, List.getElem_cons_zero, List.getElem_cons_succ, List.setIfInBounds_toArray, List.set_cons_zero, List.set_cons_succ]
      refine wpAnyH_take (i := 3) (v := .agg #[.slice p.a p.seats.length p.c, .int .i64 p.hand]) rfl (by kernel_rfl) (by kernel_rfl) (by kernel_rfl) (fun _ _ _ h => h) (Or.inl ⟨by rfl, ?_⟩) hHeld ?_
      · intro w' hSw
        have hx0 := hSw.1.1.1
        have hx1 := hSw.1.1.2
        go_simp <;> rfl
      try simp only [Act.put, List.getElem_toArray, List.getElem_cons_zero, List.getElem_cons_succ, List.setIfInBounds_toArray, List.set_cons_zero, List.set_cons_succ]
      refine wpAnyH_ready (rs := [4]) (by kernel_rfl) (by simp) ?_
      refine AllReadyH.cons rfl (fun K hK => ?_) AllReadyH.nil
      go_simp
      have CP := implPoolOk_any p _ (HGB.out _ D3) (HRP.out _ D3) (PoolA.short_wide hl)
      rw [HOKP] at CP
      simp only [PoolA.cells] at CP
      refine CP.mono ?_
      clear CP
      rintro e u1 ⟨rfl, hbu1⟩
      have E1 : Below w3.heap.size w3 u1 := D3.trans (hbu1.mono D3.size)
      refine hK.out _ _ (HSS.out _ E1) (fun hHeld => ?_)
      clear hK K
      try simp only [Act.put, List.getElem_toArray, List.getElem_cons_zero, List.getElem_cons_succ, List.setIfInBounds_toArray, List.set_cons_zero, List.set_cons_succ]
      refine wpAnyH_take (i := 5) (v := .bool true) rfl (by kernel_rfl) (by kernel_rfl) (by kernel_rfl) (fun _ _ _ h => h) (Or.inl ⟨by rfl, ?_⟩) hHeld ?_
      · intro w' hSw
        go_simp <;> rfl
      try simp only [Act.put, List.getElem_toArray, List.getElem_cons_zero, List.getElem_cons_succ, List.setIfInBounds_toArray, List.set_cons_zero, List.set_cons_succ]
      refine wpAnyH_take (i := 6) (v := .bool true) rfl (by kernel_rfl) (by kernel_rfl) (by kernel_rfl) (fun _ _ _ h => h) (Or.inl ⟨by rfl, ?_⟩) hHeld ?_
      · intro w' hSw
        go_simp <;> rfl
      try simp only [Act.put, List.getElem_toArray, List.getElem_cons_zero, List.getElem_cons_succ, List.setIfInBounds_toArray, List.set_cons_zero, List.set_cons_succ]
      refine wpAnyH_take (i := 7) (v := .bool true) rfl (by kernel_rfl) (by kernel_rfl) (by kernel_rfl) (fun _ _ _ h => h) (Or.inl ⟨by rfl, ?_⟩) hHeld ?_
      · intro w' hSw
        go_simp <;> rfl
      try simp only [Act.put, List.getElem_toArray, List.getElem_cons_zero, List.getElem_cons_succ, List.setIfInBounds_toArray, List.set_cons_zero, List.set_cons_succ]
      refine wpAnyH_take (i := 8) (v := undef) rfl (by kernel_rfl) (by kernel_rfl) (by kernel_rfl) (fun _ _ _ h => h) (Or.inr ⟨by rfl, rfl⟩) hHeld ?_
      try simp only [Act.put, List.getElem_toArray, List.getElem_cons_zero, List.getElem_cons_succ, List.setIfInBounds_toArray, List.set_cons_zero, List.set_cons_succ]
      refine wpAnyH_take (i := 9) (v := undef) rfl (by kernel_rfl) (by kernel_rfl) (by kernel_rfl) (fun _ _ _ h => h) (Or.inr ⟨by rfl, rfl⟩) hHeld ?_
      try simp only [Act.put, List.getElem_toArray, List.getElem_cons_zero, List.getElem_cons_succ, List.setIfInBounds_toArray, List.set_cons_zero, List.set_cons_succ]
      refine wpAnyH_take (i := 10) (v := undef) rfl (by kernel_rfl) (by kernel_rfl) (by kernel_rfl) (fun _ _ _ h => h) (Or.inr ⟨by rfl, rfl⟩) hHeld ?_
      try simp only [Act.put, List.getElem_toArray, List.getElem_cons_zero, List.getElem_cons_succ, List.setIfInBounds_toArray, List.set_cons_zero, List.set_cons_succ]
      refine wpAnyH_take (i := 11) (v := .bool true) rfl (by kernel_rfl) (by kernel_rfl) (by kernel_rfl) (fun _ _ _ h => h) (Or.inl ⟨by rfl, ?_⟩) hHeld ?_
      · intro w' hSw
        go_simp <;> rfl
      try simp only [Act.put, List.getElem_toArray, List.getElem_cons_zero, List.getElem_cons_succ, List.setIfInBounds_toArray, List.set_cons_zero, List.set_cons_succ]
      refine wpAnyH_take (i := 12) (v := .bool true) rfl (by kernel_rfl) (by kernel_rfl) (by kernel_rfl) (fun _ _ _ h => h) (Or.inl ⟨by rfl, ?_⟩) hHeld ?_
      · intro w' hSw
        go_simp <;> rfl
      try simp only [Act.put, List.getElem_toArray, List.getElem_cons_zero, List.getElem_cons_succ, List.setIfInBounds_toArray, List.set_cons_zero, List.set_cons_succ]
      refine wpAnyH_take (i := 13) (v := undef) rfl (by kernel_rfl) (by kernel_rfl) (by kernel_rfl) (fun _ _ _ h => h) (Or.inr ⟨by rfl, rfl⟩) hHeld ?_
      try simp only [Act.put, List.getElem_toArray, List.getElem_cons_zero, List.getElem_cons_succ, List.setIfInBounds_toArray, List.set_cons_zero, List.set_cons_succ]
      refine wpAnyH_take (i := 14) (v := undef) rfl (by kernel_rfl) (by kernel_rfl) (by kernel_rfl) (fun _ _ _ h => h) (Or.inr ⟨by rfl, rfl⟩) hHeld ?_
      try simp only [Act.put, List.getElem_toArray, List.getElem_cons_zero, List.getElem_cons_succ, List.setIfInBounds_toArray, List.set_cons_zero, List.set_cons_succ]
      refine wpAnyH_take (i := 15) (v := undef) rfl (by kernel_rfl) (by kernel_rfl) (by kernel_rfl) (fun _ _ _ h => h) (Or.inr ⟨by rfl, rfl⟩) hHeld ?_
      try simp only [Act.put, List.getElem_toArray, List.getElem_cons_zero, List.getElem_cons_succ, List.setIfInBounds_toArray, List.set_cons_zero, List.set_cons_succ]
      refine wpAnyH_take (i := 16) (v := undef) rfl (by kernel_rfl) (by kernel_rfl) (by kernel_rfl) (fun _ _ _ h => h) (Or.inr ⟨by rfl, rfl⟩) hHeld ?_
      try simp only [Act.put, List.getElem_toArray, List.getElem_cons_zero, List.getElem_cons_succ, List.setIfInBounds_toArray, List.set_cons_zero, List.set_cons_succ]
      refine wpAnyH_take (i := 17) (v := undef) rfl (by kernel_rfl) (by kernel_rfl) (by kernel_rfl) (fun _ _ _ h => h) (Or.inr ⟨by rfl, rfl⟩) hHeld ?_
      try simp only [Act.put, List.getElem_toArray, List.getElem_cons_zero, List.getElem_cons_succ, List.setIfInBounds_toArray, List.set_cons_zero, List.set_cons_succ]
      refine wpAnyH_take (i := 18) (v := undef) rfl (by kernel_rfl) (by kernel_rfl) (by kernel_rfl) (fun _ _ _ h => h) (Or.inr ⟨by rfl, rfl⟩) hHeld ?_
      try simp only [Act.put, List.getElem_toArray, List.getElem_cons_zero, List.getElem_cons_succ, List.setIfInBounds_toArray, List.set_cons_zero, List.set_cons_succ]
      refine wpAnyH_take (i := 19) (v := undef) rfl (by kernel_rfl) (by kernel_rfl) (by kernel_rfl) (fun _ _ _ h => h) (Or.inr ⟨by rfl, rfl⟩) hHeld ?_
      try simp only [Act.put, List.getElem_toArray, List.getElem_cons_zero, List.getElem_cons_succ, List.setIfInBounds_toArray, List.set_cons_zero, List.set_cons_succ]
      refine wpAnyH_take (i := 20) (v := undef) rfl (by kernel_rfl) (by kernel_rfl) (by kernel_rfl) (fun _ _ _ h => h) (Or.inr ⟨by rfl, rfl⟩) hHeld ?_
      try simp only [Act.put, List.getElem_toArray, List.getElem_cons_zero, List.getElem_cons_succ, List.setIfInBounds_toArray, List.set_cons_zero, List.set_cons_succ]
      refine wpAnyH_take (i := 21) (v := undef) rfl (by kernel_rfl) (by kernel_rfl) (by kernel_rfl) (fun _ _ _ h => h) (Or.inr ⟨by rfl, rfl⟩) hHeld ?_
      try simp only [Act.put, List.getElem_toArray, List.getElem_cons_zero, List.getElem_cons_succ, List.setIfInBounds_toArray, List.set_cons_zero, List.set_cons_succ]
      refine wpAnyH_take (i := 22) (v := undef) rfl (by kernel_rfl) (by kernel_rfl) (by kernel_rfl) (fun _ _ _ h => h) (Or.inr ⟨by rfl, rfl⟩) hHeld ?_
      try simp only [Act.put, List.getElem_toArray, List.getElem_cons_zero, List.getElem_cons_succ, List.setIfInBounds_toArray, List.set_cons_zero, List.set_cons_succ]
      refine wpAnyH_take (i := 23) (v := .bool true) rfl (by kernel_rfl) (by kernel_rfl) (by kernel_rfl) (fun _ _ _ h => h) (Or.inl ⟨by rfl, ?_⟩) hHeld ?_
      · intro w' hSw
        go_simp <;> rfl
      try simp only [Act.put, List.getElem_toArray, List.getElem_cons_zero, List.getElem_cons_succ, List.setIfInBounds_toArray, List.set_cons_zero, List.set_cons_succ]
      refine wpAnyH_done (by kernel_rfl) ?_ _
      clear hHeld
      have b6F := b63.below E1 b63.lt
      have b8F := b83.below E1 b83.lt
      have oF0 := PoolA.own.below o3 E1
      have nF : Below w.heap.size w u1 := n3.trans (E1.mono n3.size)
      have sF := E1.size
      have e0 := b8F.cell 0 _ rfl
      have e1 := b8F.cell 1 _ rfl
      have m0 := b6F.cell 0 _ rfl
      have m1 := b6F.cell 1 _ rfl
      have mf0 := b6F.frozen 0
      have mf1 := b6F.frozen 1
      obtain ⟨WF, hWF, bF, hwF, hsF⟩ := box2_fill b6F (.slice t.a t.seats.length t.c) (.int .i64 t.hand)
      have q0 := bF.cell 0 _ rfl
      have q1 := bF.cell 1 _ rfl
      have hoF := (PoolA.own.within oF0 hwF (.inr (by omega))).widen (show w.heap.size ≤ W.heap.size by omega) (show w1.heap.size ≤ WF.heap.size by omega) (Nat.le_refl _)
      have hbF : Below w.heap.size w WF := nF.trans (hwF.below (by omega) (by omega))
      clear hwF hsF bF oF0 b6F b8F HSS
      go_wp2_with fail
      rw [hWF.out]
      exact bodyPost_ret (v := .tuple #[.agg #[.slice t.a t.seats.length t.c, .int .i64 t.hand], .bool false]) (by simp [results, Tryd.results15, go_sem, q0, q1]) rfl ⟨t, false, rfl, HNO, hoF, hbF⟩
    | true =>
      cases HOKG : okP pg.lsn (pg.ss.map (·.v)) with
      | false =>
        have HNO : Hid (changeOf6 p.v no pg.lsn (pg.ss.map (·.v)) = (t.v, false)) := by rw [Hid, change_no (may_page HOKG), HV.out]
        clear HV HML HMA
        have HSS : Hid (∀ u, Below w3.heap.size w3 u → ((u.cell? ⟨w.heap.size, 0, none⟩ = some (.slice p.a p.seats.length p.c) ∧ u.cell? ⟨w.heap.size, 1, none⟩ = some (.int .i64 p.hand)) ∧ u.rangeAt (w.heap.size + 1) 0 pg.cells) ∧ (u.cell? ⟨bp, op + k * 20 + 1, none⟩ = some (.int .i64 sl) ∧ u.cell? ⟨w.heap.size + 1, 0, none⟩ = some (.int .i64 pg.lsn))) := fun u hu => ⟨⟨⟨(b33.below hu b33.lt).cell 0 _ rfl, (b33.below hu b33.lt).cell 1 _ rfl⟩, Box.range [] pg.cells [] (by simpa using b53.below hu b53.lt)⟩, (hu.cell (block_lt hsl)).trans hsl, (b53.below hu b53.lt).cell 0 _ rfl⟩
        refine wp_region_held_drew (S := fun u => ((u.cell? ⟨w.heap.size, 0, none⟩ = some (.slice p.a p.seats.length p.c) ∧ u.cell? ⟨w.heap.size, 1, none⟩ = some (.int .i64 p.hand)) ∧ u.rangeAt (w.heap.size + 1) 0 pg.cells) ∧ (u.cell? ⟨bp, op + k * 20 + 1, none⟩ = some (.int .i64 sl) ∧ u.cell? ⟨w.heap.size + 1, 0, none⟩ = some (.int .i64 pg.lsn))) (by kernel_rfl) ?_ (fun hHeld => ?_)
        · exact HSS.out _ D3
        refine wpAnyH_take (i := 0) (v := .int .i64 (k : Int)) rfl (by kernel_rfl) (by kernel_rfl) (by kernel_rfl) (fun _ _ _ h => h) (Or.inl ⟨by rfl, ?_⟩) hHeld ?_
        · intro w' hSw
          go_simp <;> rfl
        try simp only [Act.put, List.getElem_toArray, List.getElem_cons_zero, List.setIfInBounds_toArray, List.set_cons_zero, List.set_cons_succ]
        refine wpAnyH_take (i := 1) (v := .bool false) rfl (by kernel_rfl) (by kernel_rfl) (by kernel_rfl) (fun _ _ _ h => h) (Or.inl ⟨by rfl, ?_⟩) hHeld ?_
        · intro w' hSw
          go_simp <;> rfl
        try simp only [Act.put, List.getElem_toArray, List.getElem_cons_zero, List.getElem_cons_succ, List.setIfInBounds_toArray, List.set_cons_zero, List.set_cons_succ]
        refine wpAnyH_take (i := 2) (v := .bool false) rfl (by kernel_rfl) (by kernel_rfl) (by kernel_rfl) (fun _ _ _ h => h) (Or.inl ⟨by rfl, ?_⟩) hHeld ?_
        · intro w' hSw
          go_simp <;> rfl
        try simp only [Act.put, List.getElem_toArray, List.getElem_cons_zero, List.getElem_cons_succ, List.setIfInBounds_toArray, List.set_cons_zero, List.set_cons_succ]
        refine wpAnyH_take (i := 3) (v := .agg #[.slice p.a p.seats.length p.c, .int .i64 p.hand]) rfl (by kernel_rfl) (by kernel_rfl) (by kernel_rfl) (fun _ _ _ h => h) (Or.inl ⟨by rfl, ?_⟩) hHeld ?_
        · intro w' hSw
          have hx0 := hSw.1.1.1
          have hx1 := hSw.1.1.2
          go_simp <;> rfl
        try simp only [Act.put, List.getElem_toArray, List.getElem_cons_zero, List.getElem_cons_succ, List.setIfInBounds_toArray, List.set_cons_zero, List.set_cons_succ]
        refine wpAnyH_ready (rs := [4]) (by kernel_rfl) (by simp) ?_
        refine AllReadyH.cons rfl (fun K hK => ?_) AllReadyH.nil
        go_simp
        have CP := implPoolOk_any p _ (HGB.out _ D3) (HRP.out _ D3) (PoolA.short_wide hl)
        rw [HOKP] at CP
        simp only [PoolA.cells] at CP
        refine CP.mono ?_
        clear CP
        rintro e u1 ⟨rfl, hbu1⟩
        have E1 : Below w3.heap.size w3 u1 := D3.trans (hbu1.mono D3.size)
        refine hK.out _ _ (HSS.out _ E1) (fun hHeld => ?_)
        clear hK K
        try simp only [Act.put, List.getElem_toArray, List.getElem_cons_zero, List.getElem_cons_succ, List.setIfInBounds_toArray, List.set_cons_zero, List.set_cons_succ]
        refine wpAnyH_take (i := 5) (v := .bool false) rfl (by kernel_rfl) (by kernel_rfl) (by kernel_rfl) (fun _ _ _ h => h) (Or.inl ⟨by rfl, ?_⟩) hHeld ?_
        · intro w' hSw
          go_simp <;> rfl
        try simp only [Act.put, List.getElem_toArray, List.getElem_cons_zero, List.getElem_cons_succ, List.setIfInBounds_toArray, List.set_cons_zero, List.set_cons_succ]
        refine wpAnyH_take (i := 6) (v := .bool false) rfl (by kernel_rfl) (by kernel_rfl) (by kernel_rfl) (fun _ _ _ h => h) (Or.inl ⟨by rfl, ?_⟩) hHeld ?_
        · intro w' hSw
          go_simp <;> rfl
        try simp only [Act.put, List.getElem_toArray, List.getElem_cons_zero, List.getElem_cons_succ, List.setIfInBounds_toArray, List.set_cons_zero, List.set_cons_succ]
        refine wpAnyH_take (i := 7) (v := .bool false) rfl (by kernel_rfl) (by kernel_rfl) (by kernel_rfl) (fun _ _ _ h => h) (Or.inl ⟨by rfl, ?_⟩) hHeld ?_
        · intro w' hSw
          go_simp <;> rfl
        try simp only [Act.put, List.getElem_toArray, List.getElem_cons_zero, List.getElem_cons_succ, List.setIfInBounds_toArray, List.set_cons_zero, List.set_cons_succ]
        refine wpAnyH_take (i := 8) rfl (by kernel_rfl) (by kernel_rfl) (by kernel_rfl) (fun _ _ _ h => h) (yieldsIf_load_mid (by rfl) _ _ rfl _ _ rfl pg.cells _ (fun _ h => h.1.2) Tryd.underlying34 rfl HI.out) hHeld ?_
        try simp only [Act.put, List.getElem_toArray, List.getElem_cons_zero, List.getElem_cons_succ, List.setIfInBounds_toArray, List.set_cons_zero, List.set_cons_succ]
        refine wpAnyH_ready (rs := [9]) (by kernel_rfl) (by simp) ?_
        refine AllReadyH.cons rfl (fun K hK => ?_) AllReadyH.nil
        go_simp
        refine (implPageOk_any pg h4 _ (HGB.out _ E1) (HRG.out _ E1) hlp).mono ?_
        rw [HOKG]
        rintro e u2 ⟨rfl, hbu2⟩
        have E2 : Below w3.heap.size w3 u2 := E1.trans (hbu2.mono E1.size)
        refine hK.out _ _ (HSS.out _ E2) (fun hHeld => ?_)
        clear hK K
        try simp only [Act.put, List.getElem_toArray, List.getElem_cons_zero, List.getElem_cons_succ, List.setIfInBounds_toArray, List.set_cons_zero, List.set_cons_succ]
        refine wpAnyH_take (i := 10) (v := .bool true) rfl (by kernel_rfl) (by kernel_rfl) (by kernel_rfl) (fun _ _ _ h => h) (Or.inl ⟨by rfl, ?_⟩) hHeld ?_
        · intro w' hSw
          go_simp <;> rfl
        try simp only [Act.put, List.getElem_toArray, List.getElem_cons_zero, List.getElem_cons_succ, List.setIfInBounds_toArray, List.set_cons_zero, List.set_cons_succ]
        refine wpAnyH_take (i := 11) (v := .bool true) rfl (by kernel_rfl) (by kernel_rfl) (by kernel_rfl) (fun _ _ _ h => h) (Or.inl ⟨by rfl, ?_⟩) hHeld ?_
        · intro w' hSw
          go_simp <;> rfl
        try simp only [Act.put, List.getElem_toArray, List.getElem_cons_zero, List.getElem_cons_succ, List.setIfInBounds_toArray, List.set_cons_zero, List.set_cons_succ]
        refine wpAnyH_take (i := 12) (v := .bool true) rfl (by kernel_rfl) (by kernel_rfl) (by kernel_rfl) (fun _ _ _ h => h) (Or.inl ⟨by rfl, ?_⟩) hHeld ?_
        · intro w' hSw
          go_simp <;> rfl
        try simp only [Act.put, List.getElem_toArray, List.getElem_cons_zero, List.getElem_cons_succ, List.setIfInBounds_toArray, List.set_cons_zero, List.set_cons_succ]
        refine wpAnyH_take (i := 13) (v := undef) rfl (by kernel_rfl) (by kernel_rfl) (by kernel_rfl) (fun _ _ _ h => h) (Or.inr ⟨by rfl, rfl⟩) hHeld ?_
        try simp only [Act.put, List.getElem_toArray, List.getElem_cons_zero, List.getElem_cons_succ, List.setIfInBounds_toArray, List.set_cons_zero, List.set_cons_succ]
        refine wpAnyH_take (i := 14) (v := undef) rfl (by kernel_rfl) (by kernel_rfl) (by kernel_rfl) (fun _ _ _ h => h) (Or.inr ⟨by rfl, rfl⟩) hHeld ?_
        try simp only [Act.put, List.getElem_toArray, List.getElem_cons_zero, List.getElem_cons_succ, List.setIfInBounds_toArray, List.set_cons_zero, List.set_cons_succ]
        refine wpAnyH_take (i := 15) (v := undef) rfl (by kernel_rfl) (by kernel_rfl) (by kernel_rfl) (fun _ _ _ h => h) (Or.inr ⟨by rfl, rfl⟩) hHeld ?_
        try simp only [Act.put, List.getElem_toArray, List.getElem_cons_zero, List.getElem_cons_succ, List.setIfInBounds_toArray, List.set_cons_zero, List.set_cons_succ]
        refine wpAnyH_take (i := 16) (v := undef) rfl (by kernel_rfl) (by kernel_rfl) (by kernel_rfl) (fun _ _ _ h => h) (Or.inr ⟨by rfl, rfl⟩) hHeld ?_
        try simp only [Act.put, List.getElem_toArray, List.getElem_cons_zero, List.getElem_cons_succ, List.setIfInBounds_toArray, List.set_cons_zero, List.set_cons_succ]
        refine wpAnyH_take (i := 17) (v := undef) rfl (by kernel_rfl) (by kernel_rfl) (by kernel_rfl) (fun _ _ _ h => h) (Or.inr ⟨by rfl, rfl⟩) hHeld ?_
        try simp only [Act.put, List.getElem_toArray, List.getElem_cons_zero, List.getElem_cons_succ, List.setIfInBounds_toArray, List.set_cons_zero, List.set_cons_succ]
        refine wpAnyH_take (i := 18) (v := undef) rfl (by kernel_rfl) (by kernel_rfl) (by kernel_rfl) (fun _ _ _ h => h) (Or.inr ⟨by rfl, rfl⟩) hHeld ?_
        try simp only [Act.put, List.getElem_toArray, List.getElem_cons_zero, List.getElem_cons_succ, List.setIfInBounds_toArray, List.set_cons_zero, List.set_cons_succ]
        refine wpAnyH_take (i := 19) (v := undef) rfl (by kernel_rfl) (by kernel_rfl) (by kernel_rfl) (fun _ _ _ h => h) (Or.inr ⟨by rfl, rfl⟩) hHeld ?_
        try simp only [Act.put, List.getElem_toArray, List.getElem_cons_zero, List.getElem_cons_succ, List.setIfInBounds_toArray, List.set_cons_zero, List.set_cons_succ]
        refine wpAnyH_take (i := 20) (v := undef) rfl (by kernel_rfl) (by kernel_rfl) (by kernel_rfl) (fun _ _ _ h => h) (Or.inr ⟨by rfl, rfl⟩) hHeld ?_
        try simp only [Act.put, List.getElem_toArray, List.getElem_cons_zero, List.getElem_cons_succ, List.setIfInBounds_toArray, List.set_cons_zero, List.set_cons_succ]
        refine wpAnyH_take (i := 21) (v := undef) rfl (by kernel_rfl) (by kernel_rfl) (by kernel_rfl) (fun _ _ _ h => h) (Or.inr ⟨by rfl, rfl⟩) hHeld ?_
        try simp only [Act.put, List.getElem_toArray, List.getElem_cons_zero, List.getElem_cons_succ, List.setIfInBounds_toArray, List.set_cons_zero, List.set_cons_succ]
        refine wpAnyH_take (i := 22) (v := undef) rfl (by kernel_rfl) (by kernel_rfl) (by kernel_rfl) (fun _ _ _ h => h) (Or.inr ⟨by rfl, rfl⟩) hHeld ?_
        try simp only [Act.put, List.getElem_toArray, List.getElem_cons_zero, List.getElem_cons_succ, List.setIfInBounds_toArray, List.set_cons_zero, List.set_cons_succ]
        refine wpAnyH_take (i := 23) (v := .bool true) rfl (by kernel_rfl) (by kernel_rfl) (by kernel_rfl) (fun _ _ _ h => h) (Or.inl ⟨by rfl, ?_⟩) hHeld ?_
        · intro w' hSw
          go_simp <;> rfl
        try simp only [Act.put, List.getElem_toArray, List.getElem_cons_zero, List.getElem_cons_succ, List.setIfInBounds_toArray, List.set_cons_zero, List.set_cons_succ]
        refine wpAnyH_done (by kernel_rfl) ?_ _
        clear hHeld
        have b6F := b63.below E2 b63.lt
        have b8F := b83.below E2 b83.lt
        have oF0 := PoolA.own.below o3 E2
        have nF : Below w.heap.size w u2 := n3.trans (E2.mono n3.size)
        have sF := E2.size
        have e0 := b8F.cell 0 _ rfl
        have e1 := b8F.cell 1 _ rfl
        have m0 := b6F.cell 0 _ rfl
        have m1 := b6F.cell 1 _ rfl
        have mf0 := b6F.frozen 0
        have mf1 := b6F.frozen 1
        obtain ⟨WF, hWF, bF, hwF, hsF⟩ := box2_fill b6F (.slice t.a t.seats.length t.c) (.int .i64 t.hand)
        have q0 := bF.cell 0 _ rfl
        have q1 := bF.cell 1 _ rfl
        have hoF := (PoolA.own.within oF0 hwF (.inr (by omega))).widen (show w.heap.size ≤ W.heap.size by omega) (show w1.heap.size ≤ WF.heap.size by omega) (Nat.le_refl _)
        have hbF : Below w.heap.size w WF := nF.trans (hwF.below (by omega) (by omega))
        clear hwF hsF bF oF0 b6F b8F HSS
        go_wp2_with fail
        rw [hWF.out]
        exact bodyPost_ret (v := .tuple #[.agg #[.slice t.a t.seats.length t.c, .int .i64 t.hand], .bool false]) (by simp [results, Tryd.results15, go_sem, q0, q1]) rfl ⟨t, false, rfl, HNO, hoF, hbF⟩
      | true =>
        by_cases hlt : pg.lsn < sl
        · have HNO : Hid (changeOf6 p.v no pg.lsn (pg.ss.map (·.v)) = (t.v, false)) := by rw [Hid, change_no (HML.out hlt), HV.out]
          have hltb : decide (pg.lsn < sl) = true := decide_eq_true hlt
          clear HV HML HMA
          have HSS : Hid (∀ u, Below w3.heap.size w3 u → ((u.cell? ⟨w.heap.size, 0, none⟩ = some (.slice p.a p.seats.length p.c) ∧ u.cell? ⟨w.heap.size, 1, none⟩ = some (.int .i64 p.hand)) ∧ u.rangeAt (w.heap.size + 1) 0 pg.cells) ∧ (u.cell? ⟨bp, op + k * 20 + 1, none⟩ = some (.int .i64 sl) ∧ u.cell? ⟨w.heap.size + 1, 0, none⟩ = some (.int .i64 pg.lsn))) := fun u hu => ⟨⟨⟨(b33.below hu b33.lt).cell 0 _ rfl, (b33.below hu b33.lt).cell 1 _ rfl⟩, Box.range [] pg.cells [] (by simpa using b53.below hu b53.lt)⟩, (hu.cell (block_lt hsl)).trans hsl, (b53.below hu b53.lt).cell 0 _ rfl⟩
          refine wp_region_held_drew (S := fun u => ((u.cell? ⟨w.heap.size, 0, none⟩ = some (.slice p.a p.seats.length p.c) ∧ u.cell? ⟨w.heap.size, 1, none⟩ = some (.int .i64 p.hand)) ∧ u.rangeAt (w.heap.size + 1) 0 pg.cells) ∧ (u.cell? ⟨bp, op + k * 20 + 1, none⟩ = some (.int .i64 sl) ∧ u.cell? ⟨w.heap.size + 1, 0, none⟩ = some (.int .i64 pg.lsn))) (by kernel_rfl) ?_ (fun hHeld => ?_)
          · exact HSS.out _ D3
          refine wpAnyH_take (i := 0) (v := .int .i64 (k : Int)) rfl (by kernel_rfl) (by kernel_rfl) (by kernel_rfl) (fun _ _ _ h => h) (Or.inl ⟨by rfl, ?_⟩) hHeld ?_
          · intro w' hSw
            go_simp <;> rfl
          try simp only [Act.put, List.getElem_toArray, List.getElem_cons_zero, List.setIfInBounds_toArray, List.set_cons_zero, List.set_cons_succ]
          refine wpAnyH_take (i := 1) (v := .bool false) rfl (by kernel_rfl) (by kernel_rfl) (by kernel_rfl) (fun _ _ _ h => h) (Or.inl ⟨by rfl, ?_⟩) hHeld ?_
          · intro w' hSw
            go_simp <;> rfl
          try simp only [Act.put, List.getElem_toArray, List.getElem_cons_zero, List.getElem_cons_succ, List.setIfInBounds_toArray, List.set_cons_zero, List.set_cons_succ]
          refine wpAnyH_take (i := 2) (v := .bool false) rfl (by kernel_rfl) (by kernel_rfl) (by kernel_rfl) (fun _ _ _ h => h) (Or.inl ⟨by rfl, ?_⟩) hHeld ?_
          · intro w' hSw
            go_simp <;> rfl
          try simp only [Act.put, List.getElem_toArray, List.getElem_cons_zero, List.getElem_cons_succ, List.setIfInBounds_toArray, List.set_cons_zero, List.set_cons_succ]
          refine wpAnyH_take (i := 3) (v := .agg #[.slice p.a p.seats.length p.c, .int .i64 p.hand]) rfl (by kernel_rfl) (by kernel_rfl) (by kernel_rfl) (fun _ _ _ h => h) (Or.inl ⟨by rfl, ?_⟩) hHeld ?_
          · intro w' hSw
            have hx0 := hSw.1.1.1
            have hx1 := hSw.1.1.2
            go_simp <;> rfl
          try simp only [Act.put, List.getElem_toArray, List.getElem_cons_zero, List.getElem_cons_succ, List.setIfInBounds_toArray, List.set_cons_zero, List.set_cons_succ]
          refine wpAnyH_ready (rs := [4]) (by kernel_rfl) (by simp) ?_
          refine AllReadyH.cons rfl (fun K hK => ?_) AllReadyH.nil
          go_simp
          have CP := implPoolOk_any p _ (HGB.out _ D3) (HRP.out _ D3) (PoolA.short_wide hl)
          rw [HOKP] at CP
          simp only [PoolA.cells] at CP
          refine CP.mono ?_
          clear CP
          rintro e u1 ⟨rfl, hbu1⟩
          have E1 : Below w3.heap.size w3 u1 := D3.trans (hbu1.mono D3.size)
          refine hK.out _ _ (HSS.out _ E1) (fun hHeld => ?_)
          clear hK K
          try simp only [Act.put, List.getElem_toArray, List.getElem_cons_zero, List.getElem_cons_succ, List.setIfInBounds_toArray, List.set_cons_zero, List.set_cons_succ]
          refine wpAnyH_take (i := 5) (v := .bool false) rfl (by kernel_rfl) (by kernel_rfl) (by kernel_rfl) (fun _ _ _ h => h) (Or.inl ⟨by rfl, ?_⟩) hHeld ?_
          · intro w' hSw
            go_simp <;> rfl
          try simp only [Act.put, List.getElem_toArray, List.getElem_cons_zero, List.getElem_cons_succ, List.setIfInBounds_toArray, List.set_cons_zero, List.set_cons_succ]
          refine wpAnyH_take (i := 6) (v := .bool false) rfl (by kernel_rfl) (by kernel_rfl) (by kernel_rfl) (fun _ _ _ h => h) (Or.inl ⟨by rfl, ?_⟩) hHeld ?_
          · intro w' hSw
            go_simp <;> rfl
          try simp only [Act.put, List.getElem_toArray, List.getElem_cons_zero, List.getElem_cons_succ, List.setIfInBounds_toArray, List.set_cons_zero, List.set_cons_succ]
          refine wpAnyH_take (i := 7) (v := .bool false) rfl (by kernel_rfl) (by kernel_rfl) (by kernel_rfl) (fun _ _ _ h => h) (Or.inl ⟨by rfl, ?_⟩) hHeld ?_
          · intro w' hSw
            go_simp <;> rfl
          try simp only [Act.put, List.getElem_toArray, List.getElem_cons_zero, List.getElem_cons_succ, List.setIfInBounds_toArray, List.set_cons_zero, List.set_cons_succ]
          refine wpAnyH_take (i := 8) rfl (by kernel_rfl) (by kernel_rfl) (by kernel_rfl) (fun _ _ _ h => h) (yieldsIf_load_mid (by rfl) _ _ rfl _ _ rfl pg.cells _ (fun _ h => h.1.2) Tryd.underlying34 rfl HI.out) hHeld ?_
          try simp only [Act.put, List.getElem_toArray, List.getElem_cons_zero, List.getElem_cons_succ, List.setIfInBounds_toArray, List.set_cons_zero, List.set_cons_succ]
          refine wpAnyH_ready (rs := [9]) (by kernel_rfl) (by simp) ?_
          refine AllReadyH.cons rfl (fun K hK => ?_) AllReadyH.nil
          go_simp
          refine (implPageOk_any pg h4 _ (HGB.out _ E1) (HRG.out _ E1) hlp).mono ?_
          rw [HOKG]
          rintro e u2 ⟨rfl, hbu2⟩
          have E2 : Below w3.heap.size w3 u2 := E1.trans (hbu2.mono E1.size)
          refine hK.out _ _ (HSS.out _ E2) (fun hHeld => ?_)
          clear hK K
          try simp only [Act.put, List.getElem_toArray, List.getElem_cons_zero, List.getElem_cons_succ, List.setIfInBounds_toArray, List.set_cons_zero, List.set_cons_succ]
          refine wpAnyH_take (i := 10) (v := .bool false) rfl (by kernel_rfl) (by kernel_rfl) (by kernel_rfl) (fun _ _ _ h => h) (Or.inl ⟨by rfl, ?_⟩) hHeld ?_
          · intro w' hSw
            go_simp <;> rfl
          try simp only [Act.put, List.getElem_toArray, List.getElem_cons_zero, List.getElem_cons_succ, List.setIfInBounds_toArray, List.set_cons_zero, List.set_cons_succ]
          refine wpAnyH_take (i := 11) (v := .bool false) rfl (by kernel_rfl) (by kernel_rfl) (by kernel_rfl) (fun _ _ _ h => h) (Or.inl ⟨by rfl, ?_⟩) hHeld ?_
          · intro w' hSw
            go_simp <;> rfl
          try simp only [Act.put, List.getElem_toArray, List.getElem_cons_zero, List.getElem_cons_succ, List.setIfInBounds_toArray, List.set_cons_zero, List.set_cons_succ]
          refine wpAnyH_take (i := 12) (v := .bool false) rfl (by kernel_rfl) (by kernel_rfl) (by kernel_rfl) (fun _ _ _ h => h) (Or.inl ⟨by rfl, ?_⟩) hHeld ?_
          · intro w' hSw
            go_simp <;> rfl
          try simp only [Act.put, List.getElem_toArray, List.getElem_cons_zero, List.getElem_cons_succ, List.setIfInBounds_toArray, List.set_cons_zero, List.set_cons_succ]
          refine wpAnyH_take (i := 13) (v := .pointer (some ⟨w.heap.size + 1, 0, none⟩)) rfl (by kernel_rfl) (by kernel_rfl) (by kernel_rfl) (fun _ _ _ h => h) (Or.inl ⟨by rfl, ?_⟩) hHeld ?_
          · intro w' hSw
            go_simp <;> rfl
          try simp only [Act.put, List.getElem_toArray, List.getElem_cons_zero, List.getElem_cons_succ, List.setIfInBounds_toArray, List.set_cons_zero, List.set_cons_succ]
          refine wpAnyH_take (i := 14) (v := .int .i64 pg.lsn) rfl (by kernel_rfl) (by kernel_rfl) (by kernel_rfl) (fun _ _ _ h => h) (Or.inl ⟨by rfl, ?_⟩) hHeld ?_
          · intro w' hSw
            have hx0 := hSw.2.2
            go_simp <;> rfl
          try simp only [Act.put, List.getElem_toArray, List.getElem_cons_zero, List.getElem_cons_succ, List.setIfInBounds_toArray, List.set_cons_zero, List.set_cons_succ]
          refine wpAnyH_take (i := 15) (v := .pointer (some ⟨w.heap.size, 0, none⟩)) rfl (by kernel_rfl) (by kernel_rfl) (by kernel_rfl) (fun _ _ _ h => h) (Or.inl ⟨by rfl, ?_⟩) hHeld ?_
          · intro w' hSw
            go_simp <;> rfl
          try simp only [Act.put, List.getElem_toArray, List.getElem_cons_zero, List.getElem_cons_succ, List.setIfInBounds_toArray, List.set_cons_zero, List.set_cons_succ]
          refine wpAnyH_take (i := 16) (v := .slice p.a p.seats.length p.c) rfl (by kernel_rfl) (by kernel_rfl) (by kernel_rfl) (fun _ _ _ h => h) (Or.inl ⟨by rfl, ?_⟩) hHeld ?_
          · intro w' hSw
            have hx0 := hSw.1.1.1
            go_simp <;> rfl
          try simp only [Act.put, List.getElem_toArray, List.getElem_cons_zero, List.getElem_cons_succ, List.setIfInBounds_toArray, List.set_cons_zero, List.set_cons_succ]
          rw [HPA.out] at hHeld ⊢
          refine wpAnyH_take (i := 17) (v := .int .i64 (k : Int)) rfl (by kernel_rfl) (by kernel_rfl) (by kernel_rfl) (fun _ _ _ h => h) (Or.inl ⟨by rfl, ?_⟩) hHeld ?_
          · intro w' hSw
            go_simp <;> rfl
          try simp only [Act.put, List.getElem_toArray, List.getElem_cons_zero, List.getElem_cons_succ, List.setIfInBounds_toArray, List.set_cons_zero, List.set_cons_succ]
          refine wpAnyH_take (i := 18) (v := .pointer (some ⟨bp, op + k * 20, none⟩)) rfl (by kernel_rfl) (by kernel_rfl) (by kernel_rfl) (fun _ _ _ h => h) (Or.inl ⟨by rfl, ?_⟩) hHeld ?_
          · intro w' hSw
            go_simp <;> rfl
          try simp only [Act.put, List.getElem_toArray, List.getElem_cons_zero, List.getElem_cons_succ, List.setIfInBounds_toArray, List.set_cons_zero, List.set_cons_succ]
          refine wpAnyH_take (i := 19) (v := .pointer (some ⟨bp, op + k * 20 + 1, none⟩)) rfl (by kernel_rfl) (by kernel_rfl) (by kernel_rfl) (fun _ _ _ h => h) (Or.inl ⟨by rfl, ?_⟩) hHeld ?_
          · intro w' hSw
            go_simp <;> rfl
          try simp only [Act.put, List.getElem_toArray, List.getElem_cons_zero, List.getElem_cons_succ, List.setIfInBounds_toArray, List.set_cons_zero, List.set_cons_succ]
          refine wpAnyH_take (i := 20) (v := .pointer (some ⟨bp, op + k * 20 + 1, none⟩)) rfl (by kernel_rfl) (by kernel_rfl) (by kernel_rfl) (fun _ _ _ h => h) (Or.inl ⟨by rfl, ?_⟩) hHeld ?_
          · intro w' hSw
            go_simp <;> rfl
          try simp only [Act.put, List.getElem_toArray, List.getElem_cons_zero, List.getElem_cons_succ, List.setIfInBounds_toArray, List.set_cons_zero, List.set_cons_succ]
          refine wpAnyH_take (i := 21) (v := .int .i64 sl) rfl (by kernel_rfl) (by kernel_rfl) (by kernel_rfl) (fun _ _ _ h => h) (Or.inl ⟨by rfl, ?_⟩) hHeld ?_
          · intro w' hSw
            have hx0 := hSw.2.1
            go_simp <;> rfl
          try simp only [Act.put, List.getElem_toArray, List.getElem_cons_zero, List.getElem_cons_succ, List.setIfInBounds_toArray, List.set_cons_zero, List.set_cons_succ]
          refine wpAnyH_take (i := 22) (v := .bool true) rfl (by kernel_rfl) (by kernel_rfl) (by kernel_rfl) (fun _ _ _ h => h) (Or.inl ⟨by rfl, ?_⟩) hHeld ?_
          · intro w' hSw
            go_simp <;> rfl
          try simp only [Act.put, List.getElem_toArray, List.getElem_cons_zero, List.getElem_cons_succ, List.setIfInBounds_toArray, List.set_cons_zero, List.set_cons_succ]
          refine wpAnyH_take (i := 23) (v := .bool true) rfl (by kernel_rfl) (by kernel_rfl) (by kernel_rfl) (fun _ _ _ h => h) (Or.inl ⟨by rfl, ?_⟩) hHeld ?_
          · intro w' hSw
            go_simp <;> rfl
          try simp only [Act.put, List.getElem_toArray, List.getElem_cons_zero, List.getElem_cons_succ, List.setIfInBounds_toArray, List.set_cons_zero, List.set_cons_succ]
          refine wpAnyH_done (by kernel_rfl) ?_ _
          clear hHeld
          have b6F := b63.below E2 b63.lt
          have b8F := b83.below E2 b83.lt
          have oF0 := PoolA.own.below o3 E2
          have nF : Below w.heap.size w u2 := n3.trans (E2.mono n3.size)
          have sF := E2.size
          have e0 := b8F.cell 0 _ rfl
          have e1 := b8F.cell 1 _ rfl
          have m0 := b6F.cell 0 _ rfl
          have m1 := b6F.cell 1 _ rfl
          have mf0 := b6F.frozen 0
          have mf1 := b6F.frozen 1
          obtain ⟨WF, hWF, bF, hwF, hsF⟩ := box2_fill b6F (.slice t.a t.seats.length t.c) (.int .i64 t.hand)
          have q0 := bF.cell 0 _ rfl
          have q1 := bF.cell 1 _ rfl
          have hoF := (PoolA.own.within oF0 hwF (.inr (by omega))).widen (show w.heap.size ≤ W.heap.size by omega) (show w1.heap.size ≤ WF.heap.size by omega) (Nat.le_refl _)
          have hbF : Below w.heap.size w WF := nF.trans (hwF.below (by omega) (by omega))
          clear hwF hsF bF oF0 b6F b8F HSS
          go_wp2_with fail
          rw [hWF.out]
          exact bodyPost_ret (v := .tuple #[.agg #[.slice t.a t.seats.length t.c, .int .i64 t.hand], .bool false]) (by simp [results, Tryd.results15, go_sem, q0, q1]) rfl ⟨t, false, rfl, HNO, hoF, hbF⟩
        · have HYES : Hid (changeOf6 p.v no pg.lsn (pg.ss.map (·.v)) = _) := HMA.out HOKP HOKG (by omega)
          have hltb : decide (pg.lsn < sl) = false := decide_eq_false hlt
          clear HML HMA
          have HSS : Hid (∀ u, Below w3.heap.size w3 u → ((u.cell? ⟨w.heap.size, 0, none⟩ = some (.slice p.a p.seats.length p.c) ∧ u.cell? ⟨w.heap.size, 1, none⟩ = some (.int .i64 p.hand)) ∧ u.rangeAt (w.heap.size + 1) 0 pg.cells) ∧ (u.cell? ⟨bp, op + k * 20 + 1, none⟩ = some (.int .i64 sl) ∧ u.cell? ⟨w.heap.size + 1, 0, none⟩ = some (.int .i64 pg.lsn))) := fun u hu => ⟨⟨⟨(b33.below hu b33.lt).cell 0 _ rfl, (b33.below hu b33.lt).cell 1 _ rfl⟩, Box.range [] pg.cells [] (by simpa using b53.below hu b53.lt)⟩, (hu.cell (block_lt hsl)).trans hsl, (b53.below hu b53.lt).cell 0 _ rfl⟩
          refine wp_region_held_drew (S := fun u => ((u.cell? ⟨w.heap.size, 0, none⟩ = some (.slice p.a p.seats.length p.c) ∧ u.cell? ⟨w.heap.size, 1, none⟩ = some (.int .i64 p.hand)) ∧ u.rangeAt (w.heap.size + 1) 0 pg.cells) ∧ (u.cell? ⟨bp, op + k * 20 + 1, none⟩ = some (.int .i64 sl) ∧ u.cell? ⟨w.heap.size + 1, 0, none⟩ = some (.int .i64 pg.lsn))) (by kernel_rfl) ?_ (fun hHeld => ?_)
          · exact HSS.out _ D3
          refine wpAnyH_take (i := 0) (v := .int .i64 (k : Int)) rfl (by kernel_rfl) (by kernel_rfl) (by kernel_rfl) (fun _ _ _ h => h) (Or.inl ⟨by rfl, ?_⟩) hHeld ?_
          · intro w' hSw
            go_simp <;> rfl
          try simp only [Act.put, List.getElem_toArray, List.getElem_cons_zero, List.setIfInBounds_toArray, List.set_cons_zero, List.set_cons_succ]
          refine wpAnyH_take (i := 1) (v := .bool false) rfl (by kernel_rfl) (by kernel_rfl) (by kernel_rfl) (fun _ _ _ h => h) (Or.inl ⟨by rfl, ?_⟩) hHeld ?_
          · intro w' hSw
            go_simp <;> rfl
          try simp only [Act.put, List.getElem_toArray, List.getElem_cons_zero, List.getElem_cons_succ, List.setIfInBounds_toArray, List.set_cons_zero, List.set_cons_succ]
          refine wpAnyH_take (i := 2) (v := .bool false) rfl (by kernel_rfl) (by kernel_rfl) (by kernel_rfl) (fun _ _ _ h => h) (Or.inl ⟨by rfl, ?_⟩) hHeld ?_
          · intro w' hSw
            go_simp <;> rfl
          try simp only [Act.put, List.getElem_toArray, List.getElem_cons_zero, List.getElem_cons_succ, List.setIfInBounds_toArray, List.set_cons_zero, List.set_cons_succ]
          refine wpAnyH_take (i := 3) (v := .agg #[.slice p.a p.seats.length p.c, .int .i64 p.hand]) rfl (by kernel_rfl) (by kernel_rfl) (by kernel_rfl) (fun _ _ _ h => h) (Or.inl ⟨by rfl, ?_⟩) hHeld ?_
          · intro w' hSw
            have hx0 := hSw.1.1.1
            have hx1 := hSw.1.1.2
            go_simp <;> rfl
          try simp only [Act.put, List.getElem_toArray, List.getElem_cons_zero, List.getElem_cons_succ, List.setIfInBounds_toArray, List.set_cons_zero, List.set_cons_succ]
          refine wpAnyH_ready (rs := [4]) (by kernel_rfl) (by simp) ?_
          refine AllReadyH.cons rfl (fun K hK => ?_) AllReadyH.nil
          go_simp
          have CP := implPoolOk_any p _ (HGB.out _ D3) (HRP.out _ D3) (PoolA.short_wide hl)
          rw [HOKP] at CP
          simp only [PoolA.cells] at CP
          refine CP.mono ?_
          clear CP
          rintro e u1 ⟨rfl, hbu1⟩
          have E1 : Below w3.heap.size w3 u1 := D3.trans (hbu1.mono D3.size)
          refine hK.out _ _ (HSS.out _ E1) (fun hHeld => ?_)
          clear hK K
          try simp only [Act.put, List.getElem_toArray, List.getElem_cons_zero, List.getElem_cons_succ, List.setIfInBounds_toArray, List.set_cons_zero, List.set_cons_succ]
          refine wpAnyH_take (i := 5) (v := .bool false) rfl (by kernel_rfl) (by kernel_rfl) (by kernel_rfl) (fun _ _ _ h => h) (Or.inl ⟨by rfl, ?_⟩) hHeld ?_
          · intro w' hSw
            go_simp <;> rfl
          try simp only [Act.put, List.getElem_toArray, List.getElem_cons_zero, List.getElem_cons_succ, List.setIfInBounds_toArray, List.set_cons_zero, List.set_cons_succ]
          refine wpAnyH_take (i := 6) (v := .bool false) rfl (by kernel_rfl) (by kernel_rfl) (by kernel_rfl) (fun _ _ _ h => h) (Or.inl ⟨by rfl, ?_⟩) hHeld ?_
          · intro w' hSw
            go_simp <;> rfl
          try simp only [Act.put, List.getElem_toArray, List.getElem_cons_zero, List.getElem_cons_succ, List.setIfInBounds_toArray, List.set_cons_zero, List.set_cons_succ]
          refine wpAnyH_take (i := 7) (v := .bool false) rfl (by kernel_rfl) (by kernel_rfl) (by kernel_rfl) (fun _ _ _ h => h) (Or.inl ⟨by rfl, ?_⟩) hHeld ?_
          · intro w' hSw
            go_simp <;> rfl
          try simp only [Act.put, List.getElem_toArray, List.getElem_cons_zero, List.getElem_cons_succ, List.setIfInBounds_toArray, List.set_cons_zero, List.set_cons_succ]
          refine wpAnyH_take (i := 8) rfl (by kernel_rfl) (by kernel_rfl) (by kernel_rfl) (fun _ _ _ h => h) (yieldsIf_load_mid (by rfl) _ _ rfl _ _ rfl pg.cells _ (fun _ h => h.1.2) Tryd.underlying34 rfl HI.out) hHeld ?_
          try simp only [Act.put, List.getElem_toArray, List.getElem_cons_zero, List.getElem_cons_succ, List.setIfInBounds_toArray, List.set_cons_zero, List.set_cons_succ]
          refine wpAnyH_ready (rs := [9]) (by kernel_rfl) (by simp) ?_
          refine AllReadyH.cons rfl (fun K hK => ?_) AllReadyH.nil
          go_simp
          refine (implPageOk_any pg h4 _ (HGB.out _ E1) (HRG.out _ E1) hlp).mono ?_
          rw [HOKG]
          rintro e u2 ⟨rfl, hbu2⟩
          have E2 : Below w3.heap.size w3 u2 := E1.trans (hbu2.mono E1.size)
          refine hK.out _ _ (HSS.out _ E2) (fun hHeld => ?_)
          clear hK K
          try simp only [Act.put, List.getElem_toArray, List.getElem_cons_zero, List.getElem_cons_succ, List.setIfInBounds_toArray, List.set_cons_zero, List.set_cons_succ]
          refine wpAnyH_take (i := 10) (v := .bool false) rfl (by kernel_rfl) (by kernel_rfl) (by kernel_rfl) (fun _ _ _ h => h) (Or.inl ⟨by rfl, ?_⟩) hHeld ?_
          · intro w' hSw
            go_simp <;> rfl
          try simp only [Act.put, List.getElem_toArray, List.getElem_cons_zero, List.getElem_cons_succ, List.setIfInBounds_toArray, List.set_cons_zero, List.set_cons_succ]
          refine wpAnyH_take (i := 11) (v := .bool false) rfl (by kernel_rfl) (by kernel_rfl) (by kernel_rfl) (fun _ _ _ h => h) (Or.inl ⟨by rfl, ?_⟩) hHeld ?_
          · intro w' hSw
            go_simp <;> rfl
          try simp only [Act.put, List.getElem_toArray, List.getElem_cons_zero, List.getElem_cons_succ, List.setIfInBounds_toArray, List.set_cons_zero, List.set_cons_succ]
          refine wpAnyH_take (i := 12) (v := .bool false) rfl (by kernel_rfl) (by kernel_rfl) (by kernel_rfl) (fun _ _ _ h => h) (Or.inl ⟨by rfl, ?_⟩) hHeld ?_
          · intro w' hSw
            go_simp <;> rfl
          try simp only [Act.put, List.getElem_toArray, List.getElem_cons_zero, List.getElem_cons_succ, List.setIfInBounds_toArray, List.set_cons_zero, List.set_cons_succ]
          refine wpAnyH_take (i := 13) (v := .pointer (some ⟨w.heap.size + 1, 0, none⟩)) rfl (by kernel_rfl) (by kernel_rfl) (by kernel_rfl) (fun _ _ _ h => h) (Or.inl ⟨by rfl, ?_⟩) hHeld ?_
          · intro w' hSw
            go_simp <;> rfl
          try simp only [Act.put, List.getElem_toArray, List.getElem_cons_zero, List.getElem_cons_succ, List.setIfInBounds_toArray, List.set_cons_zero, List.set_cons_succ]
          refine wpAnyH_take (i := 14) (v := .int .i64 pg.lsn) rfl (by kernel_rfl) (by kernel_rfl) (by kernel_rfl) (fun _ _ _ h => h) (Or.inl ⟨by rfl, ?_⟩) hHeld ?_
          · intro w' hSw
            have hx0 := hSw.2.2
            go_simp <;> rfl
          try simp only [Act.put, List.getElem_toArray, List.getElem_cons_zero, List.getElem_cons_succ, List.setIfInBounds_toArray, List.set_cons_zero, List.set_cons_succ]
          refine wpAnyH_take (i := 15) (v := .pointer (some ⟨w.heap.size, 0, none⟩)) rfl (by kernel_rfl) (by kernel_rfl) (by kernel_rfl) (fun _ _ _ h => h) (Or.inl ⟨by rfl, ?_⟩) hHeld ?_
          · intro w' hSw
            go_simp <;> rfl
          try simp only [Act.put, List.getElem_toArray, List.getElem_cons_zero, List.getElem_cons_succ, List.setIfInBounds_toArray, List.set_cons_zero, List.set_cons_succ]
          refine wpAnyH_take (i := 16) (v := .slice p.a p.seats.length p.c) rfl (by kernel_rfl) (by kernel_rfl) (by kernel_rfl) (fun _ _ _ h => h) (Or.inl ⟨by rfl, ?_⟩) hHeld ?_
          · intro w' hSw
            have hx0 := hSw.1.1.1
            go_simp <;> rfl
          try simp only [Act.put, List.getElem_toArray, List.getElem_cons_zero, List.getElem_cons_succ, List.setIfInBounds_toArray, List.set_cons_zero, List.set_cons_succ]
          rw [HPA.out] at hHeld ⊢
          refine wpAnyH_take (i := 17) (v := .int .i64 (k : Int)) rfl (by kernel_rfl) (by kernel_rfl) (by kernel_rfl) (fun _ _ _ h => h) (Or.inl ⟨by rfl, ?_⟩) hHeld ?_
          · intro w' hSw
            go_simp <;> rfl
          try simp only [Act.put, List.getElem_toArray, List.getElem_cons_zero, List.getElem_cons_succ, List.setIfInBounds_toArray, List.set_cons_zero, List.set_cons_succ]
          refine wpAnyH_take (i := 18) (v := .pointer (some ⟨bp, op + k * 20, none⟩)) rfl (by kernel_rfl) (by kernel_rfl) (by kernel_rfl) (fun _ _ _ h => h) (Or.inl ⟨by rfl, ?_⟩) hHeld ?_
          · intro w' hSw
            go_simp <;> rfl
          try simp only [Act.put, List.getElem_toArray, List.getElem_cons_zero, List.getElem_cons_succ, List.setIfInBounds_toArray, List.set_cons_zero, List.set_cons_succ]
          refine wpAnyH_take (i := 19) (v := .pointer (some ⟨bp, op + k * 20 + 1, none⟩)) rfl (by kernel_rfl) (by kernel_rfl) (by kernel_rfl) (fun _ _ _ h => h) (Or.inl ⟨by rfl, ?_⟩) hHeld ?_
          · intro w' hSw
            go_simp <;> rfl
          try simp only [Act.put, List.getElem_toArray, List.getElem_cons_zero, List.getElem_cons_succ, List.setIfInBounds_toArray, List.set_cons_zero, List.set_cons_succ]
          refine wpAnyH_take (i := 20) (v := .pointer (some ⟨bp, op + k * 20 + 1, none⟩)) rfl (by kernel_rfl) (by kernel_rfl) (by kernel_rfl) (fun _ _ _ h => h) (Or.inl ⟨by rfl, ?_⟩) hHeld ?_
          · intro w' hSw
            go_simp <;> rfl
          try simp only [Act.put, List.getElem_toArray, List.getElem_cons_zero, List.getElem_cons_succ, List.setIfInBounds_toArray, List.set_cons_zero, List.set_cons_succ]
          refine wpAnyH_take (i := 21) (v := .int .i64 sl) rfl (by kernel_rfl) (by kernel_rfl) (by kernel_rfl) (fun _ _ _ h => h) (Or.inl ⟨by rfl, ?_⟩) hHeld ?_
          · intro w' hSw
            have hx0 := hSw.2.1
            go_simp <;> rfl
          try simp only [Act.put, List.getElem_toArray, List.getElem_cons_zero, List.getElem_cons_succ, List.setIfInBounds_toArray, List.set_cons_zero, List.set_cons_succ]
          refine wpAnyH_take (i := 22) (v := .bool false) rfl (by kernel_rfl) (by kernel_rfl) (by kernel_rfl) (fun _ _ _ h => h) (Or.inl ⟨by rfl, ?_⟩) hHeld ?_
          · intro w' hSw
            go_simp <;> rfl
          try simp only [Act.put, List.getElem_toArray, List.getElem_cons_zero, List.getElem_cons_succ, List.setIfInBounds_toArray, List.set_cons_zero, List.set_cons_succ]
          refine wpAnyH_take (i := 23) (v := .bool false) rfl (by kernel_rfl) (by kernel_rfl) (by kernel_rfl) (fun _ _ _ h => h) (Or.inl ⟨by rfl, ?_⟩) hHeld ?_
          · intro w' hSw
            go_simp <;> rfl
          try simp only [Act.put, List.getElem_toArray, List.getElem_cons_zero, List.getElem_cons_succ, List.setIfInBounds_toArray, List.set_cons_zero, List.set_cons_succ]
          refine wpAnyH_done (by kernel_rfl) ?_ _
          clear hHeld
          have b5U := b53.below E2 b53.lt
          have b6U := b63.below E2 b63.lt
          have b8U := b83.below E2 b83.lt
          have oU := PoolA.own.below o3 E2
          have nU : Below w.heap.size w u2 := n3.trans (E2.mono n3.size)
          have sU := E2.size
          obtain ⟨ts, hand, a, c⟩ := t
          simp only [PoolA.own] at oU
          have hkt : k < ts.length := HKT.out
          obtain ⟨g, rfl⟩ : ∃ g, a = some ⟨g, 0, none⟩ := by
            rcases oU.row.2 with ⟨_, h0⟩ | ⟨g, cap', cur, hv, _⟩
            · omega
            · simp only [Value.slice.injEq] at hv; exact ⟨g, hv.1⟩
          have hgl := (oU.blocks_lt g (by simp [blocksSts, Value.ownBlock]))
          have hkk2 : (k : Int) < (ts.length : Int) := by omega
          clear HSS
          go_upto_region 5 with fail
          have D5 : Below u2.heap.size u2 u2.drew := (Below.refl _ _).drew
          have HS5 : Hid (∀ x, Below u2.heap.size u2 x → x.cell? ⟨w1.heap.size, 0, none⟩ = some (.slice (some ⟨g, 0, none⟩) ts.length c) ∧ x.rangeAt (w.heap.size + 1) 0 pg.cells) := fun x hx => ⟨(b8U.below hx b8U.lt).cell 0 _ rfl, Box.range [] pg.cells [] (by simpa using b5U.below hx b5U.lt)⟩
          refine wp_region_held_drew (S := fun x => x.cell? ⟨w1.heap.size, 0, none⟩ = some (.slice (some ⟨g, 0, none⟩) ts.length c) ∧ x.rangeAt (w.heap.size + 1) 0 pg.cells) (by kernel_rfl) ?_ (fun hHeld => ?_)
          · exact HS5.out _ D5
          refine wpAnyH_take (i := 0) (v := .pointer (some ⟨w1.heap.size, 0, none⟩)) rfl (by kernel_rfl) (by kernel_rfl) (by kernel_rfl) (fun _ _ _ h => h) (Or.inl ⟨by rfl, ?_⟩) hHeld ?_
          · intro w' hSw
            go_simp <;> rfl
          try simp only [Act.put, List.getElem_toArray, List.getElem_cons_zero, List.setIfInBounds_toArray, List.set_cons_zero, List.set_cons_succ]
          refine wpAnyH_take (i := 1) (v := .slice (some ⟨g, 0, none⟩) ts.length c) rfl (by kernel_rfl) (by kernel_rfl) (by kernel_rfl) (fun _ _ _ h => h) (Or.inl ⟨by rfl, ?_⟩) hHeld ?_
          · intro w' hSw
            have hx0 := hSw.1
            go_simp <;> rfl
          try simp only [Act.put, List.getElem_toArray, List.getElem_cons_zero, List.getElem_cons_succ, List.setIfInBounds_toArray, List.set_cons_zero, List.set_cons_succ]
          refine wpAnyH_take (i := 2) (v := .int .i64 (k : Int)) rfl (by kernel_rfl) (by kernel_rfl) (by kernel_rfl) (fun _ _ _ h => h) (Or.inl ⟨by rfl, ?_⟩) hHeld ?_
          · intro w' hSw
            go_simp <;> rfl
          try simp only [Act.put, List.getElem_toArray, List.getElem_cons_zero, List.getElem_cons_succ, List.setIfInBounds_toArray, List.set_cons_zero, List.set_cons_succ]
          refine wpAnyH_take (i := 3) (v := .int .i64 no) rfl (by kernel_rfl) (by kernel_rfl) (by kernel_rfl) (fun _ _ _ h => h) (Or.inl ⟨by rfl, ?_⟩) hHeld ?_
          · intro w' hSw
            go_simp <;> rfl
          try simp only [Act.put, List.getElem_toArray, List.getElem_cons_zero, List.getElem_cons_succ, List.setIfInBounds_toArray, List.set_cons_zero, List.set_cons_succ]
          refine wpAnyH_take (i := 4) rfl (by kernel_rfl) (by kernel_rfl) (by kernel_rfl) (fun _ _ _ h => h) (yieldsIf_load_mid (by rfl) _ _ rfl _ _ rfl pg.cells _ (fun _ h => h.2) Tryd.underlying34 rfl HI.out) hHeld ?_
          try simp only [Act.put, List.getElem_toArray, List.getElem_cons_zero, List.getElem_cons_succ, List.setIfInBounds_toArray, List.set_cons_zero, List.set_cons_succ]
          refine wpAnyH_ready (rs := [5]) (by kernel_rfl) (by simp) ?_
          refine AllReadyH.cons rfl (fun K hK => ?_) AllReadyH.nil
          go_simp
          refine (copyPage_own pg h4 _ (HRG.out _ (E2.trans (D5.mono E2.size))) hlp).mono ?_
          rintro e v1 ⟨us, rfl, hus, ous, hbv⟩
          have DV : Below u2.heap.size u2 v1 := D5.trans (hbv.mono D5.size)
          refine hK.out _ _ (HS5.out _ DV) (fun hHeld => ?_)
          clear hK K
          try simp only [Act.put, List.getElem_toArray, List.getElem_cons_zero, List.getElem_cons_succ, List.setIfInBounds_toArray, List.set_cons_zero, List.set_cons_succ]
          obtain ⟨y0, y1, y2, y3, rfl⟩ := four_slots' (ts := us) (by have := congrArg List.length hus.out; simpa [h4] using this)
          obtain ⟨q, hq⟩ : ∃ q : SeatA, Hid ((⟨no, pg.lsn, y0, y1, y2, y3, true, true⟩ : SeatA) = q) := ⟨_, rfl⟩
          have HQV : Hid (q.v = ⟨no, pg.lsn, pg.ss.map (·.v), true, true⟩) := by rw [Hid, ← hq.out, ← hus.out]; rfl
          have oq : q.own v1 u2.drew.heap.size v1.heap.size := by rw [← hq.out]; exact ous
          refine wpAnyH_take (i := 6) (v := .agg q.cells.toArray) rfl (by kernel_rfl) (by kernel_rfl) (by kernel_rfl) (fun _ _ _ h => h) (Or.inl ⟨by rfl, ?_⟩) hHeld ?_
          · intro w' hSw
            have e9 := run_buildSt w' no pg.lsn y0 y1 y2 y3
            rw [hq.out] at e9
            refine run_nextP ?_
            simp only [List.map_toArray, List.map_cons, List.map_nil]
            exact e9
          try simp only [Act.put, List.getElem_toArray, List.getElem_cons_zero, List.getElem_cons_succ, List.setIfInBounds_toArray, List.set_cons_zero, List.set_cons_succ]
          refine wpAnyH_take (i := 7) (v := .pointer (some ⟨g, k * 20, none⟩)) rfl (by kernel_rfl) (by kernel_rfl) (by kernel_rfl) (fun _ _ _ h => h) (Or.inl ⟨by rfl, ?_⟩) hHeld ?_
          · intro w' hSw
            go_simp <;> rfl
          try simp only [Act.put, List.getElem_toArray, List.getElem_cons_zero, List.getElem_cons_succ, List.setIfInBounds_toArray, List.set_cons_zero, List.set_cons_succ]
          have b6V := b6U.below DV b6U.lt
          have b8V := b8U.below DV b8U.lt
          have b5V := b5U.below DV b5U.lt
          have oV := oU.below DV
          have nV : Below w.heap.size w v1 := nU.trans (DV.mono nU.size)
          have sV := DV.size
          have hkl : (ts.take k).length = k := by rw [List.length_take]; omega
          obtain ⟨WS, hWS, oS, tS, hsS⟩ := OwnSts.fill (A := ts.take k) (z := ts.getD k zeroSt) (B := ts.drop (k + 1)) (by rw [← seatD_split ts k hkt]; exact oV) q oq (by have := D5.size; omega) (by omega) (Nat.le_refl _)
          rw [hkl] at hWS
          rw [← seat_set ts k q hkt] at oS
          have HWS : Hid (v1.setCells g (k * 20) q.cells.toArray.toList = WS) := hWS.out
          have HTS : v1.there g (k * 20) q.cells.toArray.size := (row_seat oV.row rfl k hkt).2
          have hsSa := Nat.le_of_eq hsS
          have hsSb := Nat.le_of_eq hsS.symm
          have b6S := b6V.touch tS (by simp; omega)
          have b8S := b8V.touch tS (by simp; omega)
          have b5S := b5V.touch tS (by simp; omega)
          have nS : Below w.heap.size w WS := nV.trans ((tS.within (lo := W.heap.size) (hi := w1.heap.size) (fun j hj => by obtain rfl := List.mem_singleton.1 hj; exact hgl)).below (by omega) (by omega))
          have KS : WS.cell? ⟨w1.heap.size, 0, none⟩ = some (.slice (some ⟨g, 0, none⟩) ts.length c) ∧ WS.rangeAt (w.heap.size + 1) 0 pg.cells := ⟨b8S.cell 0 _ rfl, Box.range [] pg.cells [] (by simpa using b5S)⟩
          refine wpAnyH_ready (rs := [8]) (by kernel_rfl) (by simp) ?_
          refine AllReadyH.cons rfl (fun K hK => ?_) AllReadyH.nil
          rw [if_pos (by rfl)]
          refine wp_store_mid 38 (.tmp 47) (.tmp 46) rfl g (k * 20) q.cells.toArray rfl rfl HTS (seat_info q) (seat_one q) ?_
          rw [HWS.out]
          refine hK.out _ _ KS (fun hHeld => ?_)
          clear hK K
          try simp only [Act.put, List.getElem_toArray, List.getElem_cons_zero, List.getElem_cons_succ]
          refine wpAnyH_done (by kernel_rfl) ?_ _
          clear hHeld KS HWS HTS hWS hsS b5S b6V b8V b5V oV b5U b6U b8U oU D5 DV HS5 nV nU
          have e0 := b8S.cell 0 _ rfl
          have e1 := b8S.cell 1 _ rfl
          have m0 := b6S.cell 0 _ rfl
          have m1 := b6S.cell 1 _ rfl
          have mf0 := b6S.frozen 0
          have mf1 := b6S.frozen 1
          obtain ⟨WF, hWF, bF, hwF, hsF⟩ := box2_fill b6S (.slice (some ⟨g, 0, none⟩) ts.length c) (.int .i64 hand)
          have q0 := bF.cell 0 _ rfl
          have q1 := bF.cell 1 _ rfl
          have hoF := (oS.within hwF (.inr (by omega))).widen (show w.heap.size ≤ W.heap.size by omega) (show max w1.heap.size v1.heap.size ≤ WF.heap.size by omega) (Nat.le_refl _)
          have hbF : Below w.heap.size w WF := nS.trans (hwF.below (by omega) (by omega))
          have HFIN : Hid (changeOf6 p.v no pg.lsn (pg.ss.map (·.v)) = (PoolA.v ⟨ts.set k q, hand, some ⟨g, 0, none⟩, c⟩, true)) := by
            rw [Hid, HYES.out, setSeatV, ← HV.out]
            simp only [PoolA.v, List.map_set, HQV.out]
          have HLN : Hid ((ts.set k q).length = ts.length) := by rw [Hid]; simp
          clear hwF hsF bF oS tS b6S b8S HYES HV HQV hq
          generalize ts.set k q = us at *
          go_wp2_with fail
          rw [hWF.out]
          exact bodyPost_ret (v := .tuple #[.agg #[.slice (some ⟨g, 0, none⟩) ts.length c, .int .i64 hand], .bool true]) (by simp [results, Tryd.results15, go_sem, q0, q1]) rfl ⟨⟨us, hand, some ⟨g, 0, none⟩, c⟩, true, by simp only [PoolA.cells, HLN.out], HFIN, hoF, hbF⟩
end Go.Proofs.YtoboickdkednkaaDoor
