/- Several texts in one, in their order. -/
import Derived.Test.YtbpdocjkhmiimabGreatDoorPReadLogx15
import Derived.Test.YtbpdocjkhmiimabGreatDoorPReadLogx12
import Derived.Test.YtbpdocjkhmiimabGreatDoorPReadLogx13
import Derived.Test.YtbpdocjkhmiimabGreatDoorPReadLogx10
/- The walk of spec.RecOk. -/
namespace Go.Proofs.YtbpdocjkhmiimabGreatDoor
open Go.RowKit

/-- Is the record right? -/
def okR (r : RecV) : Bool :=
  inB r.lsn 1 1000000 && (slotB r.bf && (slotB r.af &&
    (if r.kind == 6 then zeroB r false false false false true && livesB r.lsn r.txs
     else inB r.tx 1 1000 && (inB r.prev 0 (r.lsn - 1) &&
      (if r.kind == 1 then zeroB r true true true false false && inB r.oid 1 31
       else if r.kind == 4 then zeroB r true true false true false && (inB r.oid 1 31 && inB r.next 0 (r.lsn - 1))
       else if r.kind == 2 then zeroB r true false false false false
       else if r.kind == 3 then zeroB r true false false false false
       else if r.kind == 5 then zeroB r true false false false false
       else false)))))

theorem inB_both {x l m : Int} (h : inB x l m = true) : l ≤ x ∧ x ≤ m := by simpa [inB] using h
theorem fifteen {w : World} {B : Nat} {x0 x1 x2 x3 x4 x5 x6 x7 x8 x9 x10 x11 x12 x13 x14 : Value} {t : TypeId} (b : Box w B [x0, x1, x2, x3, x4, x5, x6, x7, x8, x9, x10, x11, x12, x13, x14] t) :
    w.cell? ⟨B, 0, none⟩ = some x0 ∧ w.cell? ⟨B, 1, none⟩ = some x1 ∧ w.cell? ⟨B, 2, none⟩ = some x2 ∧ w.cell? ⟨B, 3, none⟩ = some x3 ∧ w.cell? ⟨B, 4, none⟩ = some x4 ∧ w.cell? ⟨B, 5, none⟩ = some x5 ∧ w.cell? ⟨B, 6, none⟩ = some x6 ∧ w.cell? ⟨B, 7, none⟩ = some x7 ∧ w.cell? ⟨B, 8, none⟩ = some x8 ∧ w.cell? ⟨B, 9, none⟩ = some x9 ∧ w.cell? ⟨B, 10, none⟩ = some x10 ∧ w.cell? ⟨B, 11, none⟩ = some x11 ∧ w.cell? ⟨B, 12, none⟩ = some x12 ∧ w.cell? ⟨B, 13, none⟩ = some x13 ∧ w.cell? ⟨B, 14, none⟩ = some x14 :=
  ⟨b.cell 0 _ rfl, b.cell 1 _ rfl, b.cell 2 _ rfl, b.cell 3 _ rfl, b.cell 4 _ rfl, b.cell 5 _ rfl, b.cell 6 _ rfl, b.cell 7 _ rfl, b.cell 8 _ rfl, b.cell 9 _ rfl, b.cell 10 _ rfl, b.cell 11 _ rfl, b.cell 12 _ rfl, b.cell 13 _ rfl, b.cell 14 _ rfl⟩

set_option maxHeartbeats 4000000 in
set_option maxRecDepth 100000 in
theorem specRecOk_any (r : RecA) (w : World) (hr : r.reads w) (hl : r.short 1099511627776) :
    Calls Tryz.prog 43 #[.agg r.cells.toArray] w fun e w' => e = .returned (.bool (okR r.v)) ∧ Below w.heap.size w w' := by
  obtain ⟨W, hW, b0, hbW, hsW⟩ := boxes1 w r.cells 59
  have HB : Hid (∀ u, Below w.heap.size w u → Calls _ _ _ _ _) := fun u hu => l3Slot_any r.bf u (ReadsO.below hr.bf hu) (fun s hs => by obtain rfl := List.mem_singleton.1 hs; exact hl.bf)
  have HA : Hid (∀ u, Below w.heap.size w u → Calls _ _ _ _ _) := fun u hu => l3Slot_any r.af u (ReadsO.below hr.af hu) (fun s hs => by obtain rfl := List.mem_singleton.1 hs; exact hl.af)
  have HC : Hid (∀ u, Below w.heap.size w u → Calls _ _ _ _ _) := fun u hu => l4Zero_check r u (hr.below hu) hl
  have HS : Hid (∀ u, Below w.heap.size w u → Calls _ _ _ _ _) := fun u hu => l4Zero_set r u (hr.below hu) hl
  have HK : Hid (∀ u, Below w.heap.size w u → Calls _ _ _ _ _) := fun u hu => l4Zero_back r u (hr.below hu) hl
  have HE : Hid (∀ u, Below w.heap.size w u → Calls _ _ _ _ _) := fun u hu => l4Zero_end r u (hr.below hu) hl
  have HL : Hid (∀ u, Below w.heap.size w u → 1 ≤ r.lsn ∧ r.lsn ≤ 1000000 → Calls _ _ _ _ _) := fun u hu hn => l4Lives_any r u (hr.txs.below hu) hl.txs hn
  have HX : Hid (∀ u, Below W.heap.size W u → Box u w.heap.size r.cells 59) := fun u hu => b0.below hu b0.lt
  have HZ : Hid (okR r.v = (inB r.lsn 1 1000000 && (slotB r.bf.v && (slotB r.af.v &&
    (if r.kind == 6 then zeroB r.v false false false false true && livesB r.lsn r.txs
     else inB r.tx 1 1000 && (inB r.prev 0 (r.lsn - 1) &&
      (if r.kind == 1 then zeroB r.v true true true false false && inB r.oid 1 31
       else if r.kind == 4 then zeroB r.v true true false true false && (inB r.oid 1 31 && inB r.next 0 (r.lsn - 1))
       else if r.kind == 2 then zeroB r.v true false false false false
       else if r.kind == 3 then zeroB r.v true false false false false
       else if r.kind == 5 then zeroB r.v true false false false false
       else false)))))) ) := rfl
  generalize okR r.v = R at *
  clear hsW hr hl b0
  simp only [RecA.cells, SlotA.cells] at *
  go_enter Tryz.func43, Tryz.ntmps43
  go_wp2_with fail
  rw [hW.out]
  clear hW
  obtain ⟨x0, x1, x2, x3, x4, x5, x6, x7, x8, x9, x10, x11, x12, x13, x14⟩ := fifteen (HX.out W (Below.refl _ _))
  have BW : Below W.heap.size W W := Below.refl _ _
  refine (l1In_any _ _ _ W).mono ?_
  rintro e u ⟨rfl, hu⟩
  rw [hu]
  clear hu u
  cases h0 : inB r.lsn 1 1000000 with
  | false =>
    have HR : Hid (R = false) := by rw [Hid, HZ.out]; simp [h0]
    clear HZ
    go_wp2
    go_ret
    exact ⟨ret_bool HR.out.symm, hbW⟩
  | true =>
    have hn := inB_both h0
    go_wp2_with fail
    refine (HB.out W hbW).mono ?_
    clear x0 x1 x2 x3 x4 x5 x6 x7 x8 x9 x10 x11 x12 x13 x14
    rintro e u1 ⟨rfl, hb_u1⟩
    have b_u1 : Below w.heap.size w u1 := (hbW).trans (hb_u1.mono (hbW).size)
    have l_u1 : Below W.heap.size W u1 := (BW).trans (hb_u1.mono (BW).size)
    obtain ⟨x0, x1, x2, x3, x4, x5, x6, x7, x8, x9, x10, x11, x12, x13, x14⟩ := fifteen (HX.out u1 l_u1)
    clear hb_u1
    cases h1 : slotB r.bf.v with
    | false =>
      have HR : Hid (R = false) := by rw [Hid, HZ.out]; simp [h0, h1]
      clear HZ
      go_wp2
      go_ret
      exact ⟨ret_bool HR.out.symm, b_u1⟩
    | true =>
      go_wp2_with fail
      refine (HA.out u1 b_u1).mono ?_
      clear x0 x1 x2 x3 x4 x5 x6 x7 x8 x9 x10 x11 x12 x13 x14
      rintro e u2 ⟨rfl, hb_u2⟩
      have b_u2 : Below w.heap.size w u2 := (b_u1).trans (hb_u2.mono (b_u1).size)
      have l_u2 : Below W.heap.size W u2 := (l_u1).trans (hb_u2.mono (l_u1).size)
      obtain ⟨x0, x1, x2, x3, x4, x5, x6, x7, x8, x9, x10, x11, x12, x13, x14⟩ := fifteen (HX.out u2 l_u2)
      clear hb_u2
      cases h2 : slotB r.af.v with
      | false =>
        have HR : Hid (R = false) := by rw [Hid, HZ.out]; simp [h0, h1, h2]
        clear HZ
        go_wp2
        go_ret
        exact ⟨ret_bool HR.out.symm, b_u2⟩
      | true =>
        cases hk6 : (r.kind == 6) with
        | true =>
          go_wp2_with fail
          refine (HC.out u2 b_u2).mono ?_
          clear x0 x1 x2 x3 x4 x5 x6 x7 x8 x9 x10 x11 x12 x13 x14
          rintro e u3 ⟨rfl, hb_u3⟩
          have b_u3 : Below w.heap.size w u3 := (b_u2).trans (hb_u3.mono (b_u2).size)
          have l_u3 : Below W.heap.size W u3 := (l_u2).trans (hb_u3.mono (l_u2).size)
          obtain ⟨x0, x1, x2, x3, x4, x5, x6, x7, x8, x9, x10, x11, x12, x13, x14⟩ := fifteen (HX.out u3 l_u3)
          clear hb_u3
          cases h3 : zeroB r.v false false false false true with
          | false =>
            have HR : Hid (R = false) := by rw [Hid, HZ.out]; simp [h0, h1, h2, hk6, h3]
            clear HZ
            go_wp2
            go_ret
            exact ⟨ret_bool HR.out.symm, b_u3⟩
          | true =>
            go_wp2_with fail
            refine (HL.out u3 b_u3 hn).mono ?_
            clear x0 x1 x2 x3 x4 x5 x6 x7 x8 x9 x10 x11 x12 x13 x14
            rintro e u4 ⟨rfl, hb_u4⟩
            have b_u4 : Below w.heap.size w u4 := (b_u3).trans (hb_u4.mono (b_u3).size)
            have l_u4 : Below W.heap.size W u4 := (l_u3).trans (hb_u4.mono (l_u3).size)
            obtain ⟨x0, x1, x2, x3, x4, x5, x6, x7, x8, x9, x10, x11, x12, x13, x14⟩ := fifteen (HX.out u4 l_u4)
            clear hb_u4
            cases h4 : livesB r.lsn r.txs with
            | false =>
              have HR : Hid (R = false) := by rw [Hid, HZ.out]; simp [h0, h1, h2, hk6, h3, h4]
              clear HZ
              go_wp2
              go_ret
              exact ⟨ret_bool HR.out.symm, b_u4⟩
            | true =>
              have HR : Hid (R = true) := by rw [Hid, HZ.out]; simp [h0, h1, h2, hk6, h3, h4]
              clear HZ
              go_wp2
              go_ret
              exact ⟨ret_bool HR.out.symm, b_u4⟩
        | false =>
          go_wp2_with fail
          refine (l1In_any _ _ _ u2).mono ?_
          rintro e v ⟨rfl, hv⟩
          rw [hv]
          clear hv v
          cases h3 : inB r.tx 1 1000 with
          | false =>
            have HR : Hid (R = false) := by rw [Hid, HZ.out]; simp [h0, h1, h2, hk6, h3]
            clear HZ
            go_wp2
            go_ret
            exact ⟨ret_bool HR.out.symm, b_u2⟩
          | true =>
            go_wp2_with fail
            refine (l1In_any _ _ _ u2).mono ?_
            rintro e v ⟨rfl, hv⟩
            rw [hv]
            clear hv v
            cases h4 : inB r.prev 0 (r.lsn - 1) with
            | false =>
              have HR : Hid (R = false) := by rw [Hid, HZ.out]; simp [h0, h1, h2, hk6, h3, h4]
              clear HZ
              go_wp2
              go_ret
              exact ⟨ret_bool HR.out.symm, b_u2⟩
            | true =>
              cases hk1 : (r.kind == 1) with
              | true =>
                go_wp2_with fail
                refine (HS.out u2 b_u2).mono ?_
                clear x0 x1 x2 x3 x4 x5 x6 x7 x8 x9 x10 x11 x12 x13 x14
                rintro e u3 ⟨rfl, hb_u3⟩
                have b_u3 : Below w.heap.size w u3 := (b_u2).trans (hb_u3.mono (b_u2).size)
                have l_u3 : Below W.heap.size W u3 := (l_u2).trans (hb_u3.mono (l_u2).size)
                obtain ⟨x0, x1, x2, x3, x4, x5, x6, x7, x8, x9, x10, x11, x12, x13, x14⟩ := fifteen (HX.out u3 l_u3)
                clear hb_u3
                cases h5 : zeroB r.v true true true false false with
                | false =>
                  have HR : Hid (R = false) := by rw [Hid, HZ.out]; simp [h0, h1, h2, hk6, h3, h4, hk1, h5]
                  clear HZ
                  go_wp2
                  go_ret
                  exact ⟨ret_bool HR.out.symm, b_u3⟩
                | true =>
                  go_wp2_with fail
                  refine (l1In_any _ _ _ u3).mono ?_
                  rintro e v ⟨rfl, hv⟩
                  rw [hv]
                  clear hv v
                  cases h6 : inB r.oid 1 31 with
                  | false =>
                    have HR : Hid (R = false) := by rw [Hid, HZ.out]; simp [h0, h1, h2, hk6, h3, h4, hk1, h5, h6]
                    clear HZ
                    go_wp2
                    go_ret
                    exact ⟨ret_bool HR.out.symm, b_u3⟩
                  | true =>
                    have HR : Hid (R = true) := by rw [Hid, HZ.out]; simp [h0, h1, h2, hk6, h3, h4, hk1, h5, h6]
                    clear HZ
                    go_wp2
                    go_ret
                    exact ⟨ret_bool HR.out.symm, b_u3⟩
              | false =>
                cases hk4 : (r.kind == 4) with
                | true =>
                  go_wp2_with fail
                  refine (HK.out u2 b_u2).mono ?_
                  clear x0 x1 x2 x3 x4 x5 x6 x7 x8 x9 x10 x11 x12 x13 x14
                  rintro e u3 ⟨rfl, hb_u3⟩
                  have b_u3 : Below w.heap.size w u3 := (b_u2).trans (hb_u3.mono (b_u2).size)
                  have l_u3 : Below W.heap.size W u3 := (l_u2).trans (hb_u3.mono (l_u2).size)
                  obtain ⟨x0, x1, x2, x3, x4, x5, x6, x7, x8, x9, x10, x11, x12, x13, x14⟩ := fifteen (HX.out u3 l_u3)
                  clear hb_u3
                  cases h5 : zeroB r.v true true false true false with
                  | false =>
                    have HR : Hid (R = false) := by rw [Hid, HZ.out]; simp [h0, h1, h2, hk6, h3, h4, hk1, hk4, h5]
                    clear HZ
                    go_wp2
                    go_ret
                    exact ⟨ret_bool HR.out.symm, b_u3⟩
                  | true =>
                    go_wp2_with fail
                    refine (l1In_any _ _ _ u3).mono ?_
                    rintro e v ⟨rfl, hv⟩
                    rw [hv]
                    clear hv v
                    cases h6 : inB r.oid 1 31 with
                    | false =>
                      have HR : Hid (R = false) := by rw [Hid, HZ.out]; simp [h0, h1, h2, hk6, h3, h4, hk1, hk4, h5, h6]
                      clear HZ
                      go_wp2
                      go_ret
                      exact ⟨ret_bool HR.out.symm, b_u3⟩
                    | true =>
                      go_wp2_with fail
                      refine (l1In_any _ _ _ u3).mono ?_
                      rintro e v ⟨rfl, hv⟩
                      rw [hv]
                      clear hv v
                      cases h7 : inB r.next 0 (r.lsn - 1) with
                      | false =>
                        have HR : Hid (R = false) := by rw [Hid, HZ.out]; simp [h0, h1, h2, hk6, h3, h4, hk1, hk4, h5, h6, h7]
                        clear HZ
                        go_wp2
                        go_ret
                        exact ⟨ret_bool HR.out.symm, b_u3⟩
                      | true =>
                        have HR : Hid (R = true) := by rw [Hid, HZ.out]; simp [h0, h1, h2, hk6, h3, h4, hk1, hk4, h5, h6, h7]
                        clear HZ
                        go_wp2
                        go_ret
                        exact ⟨ret_bool HR.out.symm, b_u3⟩
                | false =>
                  cases hk2 : (r.kind == 2) with
                  | true =>
                    go_wp2_with fail
                    refine (HE.out u2 b_u2).mono ?_
                    clear x0 x1 x2 x3 x4 x5 x6 x7 x8 x9 x10 x11 x12 x13 x14
                    rintro e u3 ⟨rfl, hb_u3⟩
                    have b_u3 : Below w.heap.size w u3 := (b_u2).trans (hb_u3.mono (b_u2).size)
                    have l_u3 : Below W.heap.size W u3 := (l_u2).trans (hb_u3.mono (l_u2).size)
                    obtain ⟨x0, x1, x2, x3, x4, x5, x6, x7, x8, x9, x10, x11, x12, x13, x14⟩ := fifteen (HX.out u3 l_u3)
                    clear hb_u3
                    cases h5 : zeroB r.v true false false false false with
                    | false =>
                      have HR : Hid (R = false) := by rw [Hid, HZ.out]; simp [h0, h1, h2, hk6, h3, h4, hk1, hk4, hk2, h5]
                      clear HZ
                      go_wp2
                      go_ret
                      exact ⟨ret_bool HR.out.symm, b_u3⟩
                    | true =>
                      have HR : Hid (R = true) := by rw [Hid, HZ.out]; simp [h0, h1, h2, hk6, h3, h4, hk1, hk4, hk2, h5]
                      clear HZ
                      go_wp2
                      go_ret
                      exact ⟨ret_bool HR.out.symm, b_u3⟩
                  | false =>
                    cases hk3 : (r.kind == 3) with
                    | true =>
                      go_wp2_with fail
                      refine (HE.out u2 b_u2).mono ?_
                      clear x0 x1 x2 x3 x4 x5 x6 x7 x8 x9 x10 x11 x12 x13 x14
                      rintro e u3 ⟨rfl, hb_u3⟩
                      have b_u3 : Below w.heap.size w u3 := (b_u2).trans (hb_u3.mono (b_u2).size)
                      have l_u3 : Below W.heap.size W u3 := (l_u2).trans (hb_u3.mono (l_u2).size)
                      obtain ⟨x0, x1, x2, x3, x4, x5, x6, x7, x8, x9, x10, x11, x12, x13, x14⟩ := fifteen (HX.out u3 l_u3)
                      clear hb_u3
                      cases h5 : zeroB r.v true false false false false with
                      | false =>
                        have HR : Hid (R = false) := by rw [Hid, HZ.out]; simp [h0, h1, h2, hk6, h3, h4, hk1, hk4, hk2, hk3, h5]
                        clear HZ
                        go_wp2
                        go_ret
                        exact ⟨ret_bool HR.out.symm, b_u3⟩
                      | true =>
                        have HR : Hid (R = true) := by rw [Hid, HZ.out]; simp [h0, h1, h2, hk6, h3, h4, hk1, hk4, hk2, hk3, h5]
                        clear HZ
                        go_wp2
                        go_ret
                        exact ⟨ret_bool HR.out.symm, b_u3⟩
                    | false =>
                      cases hk5 : (r.kind == 5) with
                      | true =>
                        go_wp2_with fail
                        refine (HE.out u2 b_u2).mono ?_
                        clear x0 x1 x2 x3 x4 x5 x6 x7 x8 x9 x10 x11 x12 x13 x14
                        rintro e u3 ⟨rfl, hb_u3⟩
                        have b_u3 : Below w.heap.size w u3 := (b_u2).trans (hb_u3.mono (b_u2).size)
                        have l_u3 : Below W.heap.size W u3 := (l_u2).trans (hb_u3.mono (l_u2).size)
                        obtain ⟨x0, x1, x2, x3, x4, x5, x6, x7, x8, x9, x10, x11, x12, x13, x14⟩ := fifteen (HX.out u3 l_u3)
                        clear hb_u3
                        cases h5 : zeroB r.v true false false false false with
                        | false =>
                          have HR : Hid (R = false) := by rw [Hid, HZ.out]; simp [h0, h1, h2, hk6, h3, h4, hk1, hk4, hk2, hk3, hk5, h5]
                          clear HZ
                          go_wp2
                          go_ret
                          exact ⟨ret_bool HR.out.symm, b_u3⟩
                        | true =>
                          have HR : Hid (R = true) := by rw [Hid, HZ.out]; simp [h0, h1, h2, hk6, h3, h4, hk1, hk4, hk2, hk3, hk5, h5]
                          clear HZ
                          go_wp2
                          go_ret
                          exact ⟨ret_bool HR.out.symm, b_u3⟩
                      | false =>
                        have HR : Hid (R = false) := by rw [Hid, HZ.out]; simp [h0, h1, h2, hk6, h3, h4, hk1, hk4, hk2, hk3, hk5]
                        clear HZ
                        go_wp2
                        go_ret
                        exact ⟨ret_bool HR.out.symm, b_u2⟩
end Go.Proofs.YtbpdocjkhmiimabGreatDoor

/- The walk of spec.Crc: it comes to crcOf. -/
namespace Go.Proofs.YtbpdocjkhmiimabGreatDoor
open Go.RowKit

theorem i64_byte (c : Nat) (h : c < 256) : wrap64 (c : Int) = c := by unfold wrap64; omega

theorem spec_odd (x y : Nat) (hx : x < 4294967296) (h : (x : Int) % 2 = 1) (hy : y = crcBit x) : bits .xor .i64 ((x : Int) / 2) 3988292384 = (y : Int) := by
  rw [hy, crcBit_odd x h]
  have := i64_xor_nat (x / 2) 3988292384 (by omega) (by omega)
  rw [← this]
  rfl

theorem spec_end (x y : Nat) (hx : x < 4294967296) (hy : y = 4294967295 ^^^ x) : bits .xor .i64 (x : Int) 4294967295 = (y : Int) := by
  have := i64_xor_nat x 4294967295 hx (by omega)
  rw [hy, Nat.xor_comm, ← this]
  rfl

set_option maxHeartbeats 400000 in
theorem specCrc_any (a : Option Addr) (cap : Nat) (zs : List Int) (w : World) (hr : Reads w a zs) (hl : zs.length ≤ 140737488351232) :
    Calls Tryz.prog 54 #[.slice a zs.length cap] w fun e w' => e = .returned (.int .i64 (crcOf zs : Nat)) ∧ w' = w := by
  have hb := hr.byte
  rcases hr.cases with rfl | ⟨b, off, rfl, hpos, hcell⟩
  · go_enter Tryz.func54, Tryz.ntmps54
    go_wp2
    refine wp_loop_rounds 1 ?_
    rw [rounds_succ]
    go_wp2
    go_ret
    exact ⟨ret_int (spec_end 4294967295 _ (by omega) crcOf_nil), rfl⟩
  · go_enter Tryz.func54, Tryz.ntmps54
    go_wp2
    go_loop [3, 4] (fun x i => ∃ k : Nat, k ≤ zs.length ∧ i = .int .i64 k ∧ x = .int .i64 (crcTo zs k : Nat)) (fun _ i => zs.length - (intOf i).toNat)
    case atStart => exact ⟨0, by omega, rfl, by rw [crcTo_zero]; rfl⟩
    case round =>
      obtain ⟨k, hk, rfl, rfl⟩ := hrel
      have hx := crcTo_lt zs hb k
      by_cases hlt : k < zs.length
      · have hc := hcell k hlt
        obtain ⟨hn, hn2⟩ := bytes_nat hb k
        have HS : Hid (crcTo zs (k + 1) = _) := crcTo_succ zs k hlt
        rw [hn] at hc
        clear hn hcell
        generalize (zs.getD k 0).toNat = c at *
        generalize crcTo zs k = x at *
        have HX : Hid (bits .xor .i64 (x : Int) (c : Int) = ((x ^^^ c : Nat) : Int)) := i64_xor_nat x c hx (by omega)
        have HL : Hid (x ^^^ c < 4294967296) := xor_byte_lt x c hx hn2
        have HB : Hid (crcByte x c = crcBits 8 (x ^^^ c)) := rfl
        generalize x ^^^ c = y at *
        go_wp2
        go_loop [3, 5] (fun v j => ∃ m : Nat, m ≤ 8 ∧ j = .int .i64 m ∧ v = .int .i64 (crcBits m y : Nat)) (fun _ j => 8 - (intOf j).toNat)
        case atStart => exact ⟨0, by omega, rfl, val_int HX.out⟩
        case round =>
          obtain ⟨m, hm, rfl, rfl⟩ := hrel
          have hz := crcBits_lt m y HL.out
          have HT : Hid (crcBits (m + 1) y = crcBit (crcBits m y)) := rfl
          have HM : Hid (m = 8 → crcBits m y = crcBits 8 y) := fun h => by rw [h]
          generalize crcBits m y = z at *
          by_cases hm8 : m < 8
          · have h1 := i64_and1 (z : Int)
            by_cases ho : (z : Int) % 2 = 1
            · rw [ho] at h1
              go_wp2
              go_round
              case rel => exact ⟨m + 1, by omega, by go_num, val_int (spec_odd z _ hz ho HT.out)⟩
              case measure => simp [intOf]; omega
            · rw [show (z : Int) % 2 = 0 from by omega] at h1
              go_wp2
              go_round
              case rel => exact ⟨m + 1, by omega, by go_num, val_int (crc_even z _ ho HT.out)⟩
              case measure => simp [intOf]; omega
          · have HV : Hid (crcTo zs (k + 1) = z) := by
              have e := HM.out (by omega)
              show _ = _
              rw [HS.out, HB.out, ← e]
            go_wp2
            go_round
            case rel => exact ⟨k + 1, by omega, by go_num, by rw [HV.out]⟩
            case measure => simp [intOf]; omega
      · have HE : Hid (crcOf zs = 4294967295 ^^^ crcTo zs k) := by
          have e : k = zs.length := by omega
          rw [e]; rfl
        go_wp2
        go_ret
        exact ⟨ret_int (spec_end _ _ hx HE.out), rfl⟩
end Go.Proofs.YtbpdocjkhmiimabGreatDoor

/- The walk of spec.l1Four. -/
namespace Go.Proofs.YtbpdocjkhmiimabGreatDoor
open Go.RowKit

set_option maxHeartbeats 400000 in
theorem l1Four_any (x : Nat) (w : World) (hx : x < 4294967296) :
    Calls Tryz.prog 53 #[.int .i64 x] w fun e w' => ∃ a' c' ys, e = .returned (.slice a' ys.length c') ∧ ys = four x ∧ OwnB w' w.heap.size a' c' ys ∧ Below w.heap.size w w' := by
  go_enter Tryz.func53, Tryz.ntmps53
  go_wp2
  go_ret
  refine ⟨some ⟨w.heap.size, 0, none⟩, 4, [(x : Int) % 256, (x : Int) / 256 % 256, (x : Int) / 65536 % 256, (x : Int) / 16777216], rfl, ?_, own_lit4 w _ _ _ _ ?_, (Below.refl _ _).alloc (Nat.le_refl _) _⟩
  · rw [four_eq, Nat.mod_eq_of_lt (show x / 16777216 < 256 from by omega)]; simp
  · simp; omega
end Go.Proofs.YtbpdocjkhmiimabGreatDoor

/- The walk of spec.Frame: it comes to frameOf. -/
namespace Go.Proofs.YtbpdocjkhmiimabGreatDoor
open Go.RowKit

set_option maxHeartbeats 400000 in
set_option maxRecDepth 100000 in
theorem specFrame_any (a : Option Addr) (c : Nat) (zs : List Int) (w : World) (hr : Reads w a zs) (hc : a = none → c = 0) (hl : zs.length ≤ 70368744100000) :
    Calls Tryz.prog 32 #[.slice a zs.length c] w fun e w' => ∃ a' c' ys, e = .returned (.slice a' ys.length c') ∧ ys = frameOf zs ∧ OwnB w' w.heap.size a' c' ys ∧ Below w.heap.size w w' := by
  have HC : Hid (a = none → c = 0) := hc
  have HB : Hid (∀ z ∈ zs, 0 ≤ z ∧ z < 256) := hr.byte
  have HL : Hid ((putOf (zs.length : Int)).length ≤ 65) := (putOf_len _).2
  clear hc
  go_enter Tryz.func32, Tryz.ntmps32
  go_wp2_with fail
  refine (specPutInt_any _ 0 [] (zs.length : Int) _ (own_lit0 w).reads (fun h => by cases h) (by simp)).mono ?_
  rintro e w1 ⟨a1, c1, y1, rfl, hy1, ho1, hb1⟩
  have hbw : Below w.heap.size w w1 := ((Below.refl _ _).alloc (Nat.le_refl _) _).trans (hb1.mono (by simp))
  have hr1 := hr.below hbw
  have HY1 : Hid (y1 = putOf zs.length) := by rw [Hid, hy1]; simp
  have hl1 : y1.length ≤ 65 := by rw [HY1.out]; exact HL.out
  have ho1' : OwnB w1 w.heap.size a1 c1 y1 := ho1.base (by simp)
  have hs1 := hbw.size
  clear hy1 hb1 ho1
  go_wp2_with (at_builtin; refine append_bytes rfl _ _ rfl w.heap.size a1 c1 y1 rfl ho1' a c zs rfl hr1 HC.out (by omega) hs1 ?_; intro a2 c2 y2 w2 hy2 ho2 hg2)
  have hbw2 := hbw.grown hg2 hs1 (fun j hj => (ho1'.2.lt j hj).1)
  have hr2 := hr.below hbw2
  have HY2 : Hid (y2 = putOf zs.length ++ zs) := by rw [Hid, hy2.out, HY1.out]
  have hl2 : y2.length ≤ 70368744177000 := by
    have e := congrArg List.length HY2.out
    have := HL.out
    rw [List.length_append] at e
    omega
  clear hr hr1 hbw ho1' hg2 hs1 hl1
  refine (specCrc_any a c zs w2 hr2 (by omega)).mono ?_
  rintro e w3 ⟨rfl, rfl⟩
  have hcl := crcOf_lt zs HB.out
  go_wp2_with fail
  refine (l1Four_any (crcOf zs) w3 hcl).mono ?_
  rintro e w4 ⟨a4, c4, y4, rfl, hy4, ho4, hb4⟩
  have HY4 : Hid (y4 = four (crcOf zs)) := hy4
  have hl4 : y4.length = 4 := by rw [hy4]; simp [four, fourTo]
  have hl4' : y4.length ≤ 4 := by omega
  have ho2' := ho2.below hb4
  have hs4 : w.heap.size ≤ w4.heap.size := Nat.le_trans hbw2.size hb4.size
  clear hy4 hl4 ho2
  go_wp2_with (at_builtin; refine append_bytes rfl _ _ rfl w.heap.size a2 c2 y2 rfl ho2' a4 c4 y4 rfl ho4.reads ho4.nocap (by omega) hs4 ?_; intro a5 c5 y5 w5 hy5 ho5 hg5)
  go_ret
  exact ⟨a5, c5, y5, rfl, by rw [hy5.out, HY2.out, HY4.out]; rfl, ho5, (hbw2.trans (hb4.mono hbw2.size)).grown hg5 hs4 (fun j hj => (ho2'.2.lt j hj).1)⟩

end Go.Proofs.YtbpdocjkhmiimabGreatDoor
