/- Several texts in one, in their order. -/
import Derived.Test.YtbpdocjkhmiimaaGreatDoorPAppendx15
import Derived.Test.YtbpdocjkhmiimaaGreatDoorPAppendx12
import Derived.Test.YtbpdocjkhmiimaaGreatDoorPAppendx13
import Derived.Test.YtbpdocjkhmiimaaGreatDoorPAppendx10
/- The walk of spec.RecOk. -/
namespace Go.Proofs.YtbpdocjkhmiimaaGreatDoor
open Go.RowKit

/-- Is the record right? -/
def okR (r : RecV) : Bool :=
  inB r.lsn 1 1000000 && (slotB r.bf && (slotB r.af &&
    (if r.kind == 6 then zeroB r false false false false true && livesB r.lsn r.txs
     else inB r.tx 1 1000 && (inB r.prev 0 (r.lsn - 1) &&
      (if r.kind == 1 then zeroB r true true true false false && inB r.oid 1 31
       else if r.kind == 4 then zeroB r true true false true false && (inB r.oid 1 31 && inB r.next 0 (r.lsn - 1))
       else if r.kind == 2 then zeroB r true false false false false
       else if r.kind == 3 then zeroB r true false false false false
       else if r.kind == 5 then zeroB r true false false false false
       else false)))))

theorem inB_both {x l m : Int} (h : inB x l m = true) : l ≤ x ∧ x ≤ m := by simpa [inB] using h
theorem fifteen {w : World} {B : Nat} {x0 x1 x2 x3 x4 x5 x6 x7 x8 x9 x10 x11 x12 x13 x14 : Value} {t : TypeId} (b : Box w B [x0, x1, x2, x3, x4, x5, x6, x7, x8, x9, x10, x11, x12, x13, x14] t) :
    w.cell? ⟨B, 0, none⟩ = some x0 ∧ w.cell? ⟨B, 1, none⟩ = some x1 ∧ w.cell? ⟨B, 2, none⟩ = some x2 ∧ w.cell? ⟨B, 3, none⟩ = some x3 ∧ w.cell? ⟨B, 4, none⟩ = some x4 ∧ w.cell? ⟨B, 5, none⟩ = some x5 ∧ w.cell? ⟨B, 6, none⟩ = some x6 ∧ w.cell? ⟨B, 7, none⟩ = some x7 ∧ w.cell? ⟨B, 8, none⟩ = some x8 ∧ w.cell? ⟨B, 9, none⟩ = some x9 ∧ w.cell? ⟨B, 10, none⟩ = some x10 ∧ w.cell? ⟨B, 11, none⟩ = some x11 ∧ w.cell? ⟨B, 12, none⟩ = some x12 ∧ w.cell? ⟨B, 13, none⟩ = some x13 ∧ w.cell? ⟨B, 14, none⟩ = some x14 :=
  ⟨b.cell 0 _ rfl, b.cell 1 _ rfl, b.cell 2 _ rfl, b.cell 3 _ rfl, b.cell 4 _ rfl, b.cell 5 _ rfl, b.cell 6 _ rfl, b.cell 7 _ rfl, b.cell 8 _ rfl, b.cell 9 _ rfl, b.cell 10 _ rfl, b.cell 11 _ rfl, b.cell 12 _ rfl, b.cell 13 _ rfl, b.cell 14 _ rfl⟩

set_option maxHeartbeats 4000000 in
set_option maxRecDepth 100000 in
theorem specRecOk_any (r : RecA) (w : World) (hr : r.reads w) (hl : r.short 1099511627776) :
    Calls Tryz.prog 40 #[.agg r.cells.toArray] w fun e w' => e = .returned (.bool (okR r.v)) ∧ Below w.heap.size w w' := by
  obtain ⟨W, hW, b0, hbW, hsW⟩ := boxes1 w r.cells 42
  have HB : Hid (∀ u, Below w.heap.size w u → Calls _ _ _ _ _) := fun u hu => l3Slot_any r.bf u (ReadsO.below hr.bf hu) (fun s hs => by obtain rfl := List.mem_singleton.1 hs; exact hl.bf)
  have HA : Hid (∀ u, Below w.heap.size w u → Calls _ _ _ _ _) := fun u hu => l3Slot_any r.af u (ReadsO.below hr.af hu) (fun s hs => by obtain rfl := List.mem_singleton.1 hs; exact hl.af)
  have HC : Hid (∀ u, Below w.heap.size w u → Calls _ _ _ _ _) := fun u hu => l4Zero_check r u (hr.below hu) hl
  have HS : Hid (∀ u, Below w.heap.size w u → Calls _ _ _ _ _) := fun u hu => l4Zero_set r u (hr.below hu) hl
  have HK : Hid (∀ u, Below w.heap.size w u → Calls _ _ _ _ _) := fun u hu => l4Zero_back r u (hr.below hu) hl
  have HE : Hid (∀ u, Below w.heap.size w u → Calls _ _ _ _ _) := fun u hu => l4Zero_end r u (hr.below hu) hl
  have HL : Hid (∀ u, Below w.heap.size w u → 1 ≤ r.lsn ∧ r.lsn ≤ 1000000 → Calls _ _ _ _ _) := fun u hu hn => l4Lives_any r u (hr.txs.below hu) hl.txs hn
  have HX : Hid (∀ u, Below W.heap.size W u → Box u w.heap.size r.cells 42) := fun u hu => b0.below hu b0.lt
  have HZ : Hid (okR r.v = (inB r.lsn 1 1000000 && (slotB r.bf.v && (slotB r.af.v &&
    (if r.kind == 6 then zeroB r.v false false false false true && livesB r.lsn r.txs
     else inB r.tx 1 1000 && (inB r.prev 0 (r.lsn - 1) &&
      (if r.kind == 1 then zeroB r.v true true true false false && inB r.oid 1 31
       else if r.kind == 4 then zeroB r.v true true false true false && (inB r.oid 1 31 && inB r.next 0 (r.lsn - 1))
       else if r.kind == 2 then zeroB r.v true false false false false
       else if r.kind == 3 then zeroB r.v true false false false false
       else if r.kind == 5 then zeroB r.v true false false false false
       else false)))))) ) := rfl
  generalize okR r.v = R at *
  clear hsW hr hl b0
  simp only [RecA.cells, SlotA.cells] at *
  go_enter Tryz.func40, Tryz.ntmps40
  go_wp2_with fail
  rw [hW.out]
  clear hW
  obtain ⟨x0, x1, x2, x3, x4, x5, x6, x7, x8, x9, x10, x11, x12, x13, x14⟩ := fifteen (HX.out W (Below.refl _ _))
  have BW : Below W.heap.size W W := Below.refl _ _
  refine (l1In_any _ _ _ W).mono ?_
  rintro e u ⟨rfl, hu⟩
  rw [hu]
  clear hu u
  cases h0 : inB r.lsn 1 1000000 with
  | false =>
    have HR : Hid (R = false) := by rw [Hid, HZ.out]; simp [h0]
    clear HZ
    go_wp2
    go_ret
    exact ⟨ret_bool HR.out.symm, hbW⟩
  | true =>
    have hn := inB_both h0
    go_wp2_with fail
    refine (HB.out W hbW).mono ?_
    clear x0 x1 x2 x3 x4 x5 x6 x7 x8 x9 x10 x11 x12 x13 x14
    rintro e u1 ⟨rfl, hb_u1⟩
    have b_u1 : Below w.heap.size w u1 := (hbW).trans (hb_u1.mono (hbW).size)
    have l_u1 : Below W.heap.size W u1 := (BW).trans (hb_u1.mono (BW).size)
    obtain ⟨x0, x1, x2, x3, x4, x5, x6, x7, x8, x9, x10, x11, x12, x13, x14⟩ := fifteen (HX.out u1 l_u1)
    clear hb_u1
    cases h1 : slotB r.bf.v with
    | false =>
      have HR : Hid (R = false) := by rw [Hid, HZ.out]; simp [h0, h1]
      clear HZ
      go_wp2
      go_ret
      exact ⟨ret_bool HR.out.symm, b_u1⟩
    | true =>
      go_wp2_with fail
      refine (HA.out u1 b_u1).mono ?_
      clear x0 x1 x2 x3 x4 x5 x6 x7 x8 x9 x10 x11 x12 x13 x14
      rintro e u2 ⟨rfl, hb_u2⟩
      have b_u2 : Below w.heap.size w u2 := (b_u1).trans (hb_u2.mono (b_u1).size)
      have l_u2 : Below W.heap.size W u2 := (l_u1).trans (hb_u2.mono (l_u1).size)
      obtain ⟨x0, x1, x2, x3, x4, x5, x6, x7, x8, x9, x10, x11, x12, x13, x14⟩ := fifteen (HX.out u2 l_u2)
      clear hb_u2
      cases h2 : slotB r.af.v with
      | false =>
        have HR : Hid (R = false) := by rw [Hid, HZ.out]; simp [h0, h1, h2]
        clear HZ
        go_wp2
        go_ret
        exact ⟨ret_bool HR.out.symm, b_u2⟩
      | true =>
        cases hk6 : (r.kind == 6) with
        | true =>
          go_wp2_with fail
          refine (HC.out u2 b_u2).mono ?_
          clear x0 x1 x2 x3 x4 x5 x6 x7 x8 x9 x10 x11 x12 x13 x14
          rintro e u3 ⟨rfl, hb_u3⟩
          have b_u3 : Below w.heap.size w u3 := (b_u2).trans (hb_u3.mono (b_u2).size)
          have l_u3 : Below W.heap.size W u3 := (l_u2).trans (hb_u3.mono (l_u2).size)
          obtain ⟨x0, x1, x2, x3, x4, x5, x6, x7, x8, x9, x10, x11, x12, x13, x14⟩ := fifteen (HX.out u3 l_u3)
          clear hb_u3
          cases h3 : zeroB r.v false false false false true with
          | false =>
            have HR : Hid (R = false) := by rw [Hid, HZ.out]; simp [h0, h1, h2, hk6, h3]
            clear HZ
            go_wp2
            go_ret
            exact ⟨ret_bool HR.out.symm, b_u3⟩
          | true =>
            go_wp2_with fail
            refine (HL.out u3 b_u3 hn).mono ?_
            clear x0 x1 x2 x3 x4 x5 x6 x7 x8 x9 x10 x11 x12 x13 x14
            rintro e u4 ⟨rfl, hb_u4⟩
            have b_u4 : Below w.heap.size w u4 := (b_u3).trans (hb_u4.mono (b_u3).size)
            have l_u4 : Below W.heap.size W u4 := (l_u3).trans (hb_u4.mono (l_u3).size)
            obtain ⟨x0, x1, x2, x3, x4, x5, x6, x7, x8, x9, x10, x11, x12, x13, x14⟩ := fifteen (HX.out u4 l_u4)
            clear hb_u4
            cases h4 : livesB r.lsn r.txs with
            | false =>
              have HR : Hid (R = false) := by rw [Hid, HZ.out]; simp [h0, h1, h2, hk6, h3, h4]
              clear HZ
              go_wp2
              go_ret
              exact ⟨ret_bool HR.out.symm, b_u4⟩
            | true =>
              have HR : Hid (R = true) := by rw [Hid, HZ.out]; simp [h0, h1, h2, hk6, h3, h4]
              clear HZ
              go_wp2
              go_ret
              exact ⟨ret_bool HR.out.symm, b_u4⟩
        | false =>
          go_wp2_with fail
          refine (l1In_any _ _ _ u2).mono ?_
          rintro e v ⟨rfl, hv⟩
          rw [hv]
          clear hv v
          cases h3 : inB r.tx 1 1000 with
          | false =>
            have HR : Hid (R = false) := by rw [Hid, HZ.out]; simp [h0, h1, h2, hk6, h3]
            clear HZ
            go_wp2
            go_ret
            exact ⟨ret_bool HR.out.symm, b_u2⟩
          | true =>
            go_wp2_with fail
            refine (l1In_any _ _ _ u2).mono ?_
            rintro e v ⟨rfl, hv⟩
            rw [hv]
            clear hv v
            cases h4 : inB r.prev 0 (r.lsn - 1) with
            | false =>
              have HR : Hid (R = false) := by rw [Hid, HZ.out]; simp [h0, h1, h2, hk6, h3, h4]
              clear HZ
              go_wp2
              go_ret
              exact ⟨ret_bool HR.out.symm, b_u2⟩
            | true =>
              cases hk1 : (r.kind == 1) with
              | true =>
                go_wp2_with fail
                refine (HS.out u2 b_u2).mono ?_
                clear x0 x1 x2 x3 x4 x5 x6 x7 x8 x9 x10 x11 x12 x13 x14
                rintro e u3 ⟨rfl, hb_u3⟩
                have b_u3 : Below w.heap.size w u3 := (b_u2).trans (hb_u3.mono (b_u2).size)
                have l_u3 : Below W.heap.size W u3 := (l_u2).trans (hb_u3.mono (l_u2).size)
                obtain ⟨x0, x1, x2, x3, x4, x5, x6, x7, x8, x9, x10, x11, x12, x13, x14⟩ := fifteen (HX.out u3 l_u3)
                clear hb_u3
                cases h5 : zeroB r.v true true true false false with
                | false =>
                  have HR : Hid (R = false) := by rw [Hid, HZ.out]; simp [h0, h1, h2, hk6, h3, h4, hk1, h5]
                  clear HZ
                  go_wp2
                  go_ret
                  exact ⟨ret_bool HR.out.symm, b_u3⟩
                | true =>
                  go_wp2_with fail
                  refine (l1In_any _ _ _ u3).mono ?_
                  rintro e v ⟨rfl, hv⟩
                  rw [hv]
                  clear hv v
                  cases h6 : inB r.oid 1 31 with
                  | false =>
                    have HR : Hid (R = false) := by rw [Hid, HZ.out]; simp [h0, h1, h2, hk6, h3, h4, hk1, h5, h6]
                    clear HZ
                    go_wp2
                    go_ret
                    exact ⟨ret_bool HR.out.symm, b_u3⟩
                  | true =>
                    have HR : Hid (R = true) := by rw [Hid, HZ.out]; simp [h0, h1, h2, hk6, h3, h4, hk1, h5, h6]
                    clear HZ
                    go_wp2
                    go_ret
                    exact ⟨ret_bool HR.out.symm, b_u3⟩
              | false =>
                cases hk4 : (r.kind == 4) with
                | true =>
                  go_wp2_with fail
                  refine (HK.out u2 b_u2).mono ?_
                  clear x0 x1 x2 x3 x4 x5 x6 x7 x8 x9 x10 x11 x12 x13 x14
                  rintro e u3 ⟨rfl, hb_u3⟩
                  have b_u3 : Below w.heap.size w u3 := (b_u2).trans (hb_u3.mono (b_u2).size)
                  have l_u3 : Below W.heap.size W u3 := (l_u2).trans (hb_u3.mono (l_u2).size)
                  obtain ⟨x0, x1, x2, x3, x4, x5, x6, x7, x8, x9, x10, x11, x12, x13, x14⟩ := fifteen (HX.out u3 l_u3)
                  clear hb_u3
                  cases h5 : zeroB r.v true true false true false with
                  | false =>
                    have HR : Hid (R = false) := by rw [Hid, HZ.out]; simp [h0, h1, h2, hk6, h3, h4, hk1, hk4, h5]
                    clear HZ
                    go_wp2
                    go_ret
                    exact ⟨ret_bool HR.out.symm, b_u3⟩
                  | true =>
                    go_wp2_with fail
                    refine (l1In_any _ _ _ u3).mono ?_
                    rintro e v ⟨rfl, hv⟩
                    rw [hv]
                    clear hv v
                    cases h6 : inB r.oid 1 31 with
                    | false =>
                      have HR : Hid (R = false) := by rw [Hid, HZ.out]; simp [h0, h1, h2, hk6, h3, h4, hk1, hk4, h5, h6]
                      clear HZ
                      go_wp2
                      go_ret
                      exact ⟨ret_bool HR.out.symm, b_u3⟩
                    | true =>
                      go_wp2_with fail
                      refine (l1In_any _ _ _ u3).mono ?_
                      rintro e v ⟨rfl, hv⟩
                      rw [hv]
                      clear hv v
                      cases h7 : inB r.next 0 (r.lsn - 1) with
                      | false =>
                        have HR : Hid (R = false) := by rw [Hid, HZ.out]; simp [h0, h1, h2, hk6, h3, h4, hk1, hk4, h5, h6, h7]
                        clear HZ
                        go_wp2
                        go_ret
                        exact ⟨ret_bool HR.out.symm, b_u3⟩
                      | true =>
                        have HR : Hid (R = true) := by rw [Hid, HZ.out]; simp [h0, h1, h2, hk6, h3, h4, hk1, hk4, h5, h6, h7]
                        clear HZ
                        go_wp2
                        go_ret
                        exact ⟨ret_bool HR.out.symm, b_u3⟩
                | false =>
                  cases hk2 : (r.kind == 2) with
                  | true =>
                    go_wp2_with fail
                    refine (HE.out u2 b_u2).mono ?_
                    clear x0 x1 x2 x3 x4 x5 x6 x7 x8 x9 x10 x11 x12 x13 x14
                    rintro e u3 ⟨rfl, hb_u3⟩
                    have b_u3 : Below w.heap.size w u3 := (b_u2).trans (hb_u3.mono (b_u2).size)
                    have l_u3 : Below W.heap.size W u3 := (l_u2).trans (hb_u3.mono (l_u2).size)
                    obtain ⟨x0, x1, x2, x3, x4, x5, x6, x7, x8, x9, x10, x11, x12, x13, x14⟩ := fifteen (HX.out u3 l_u3)
                    clear hb_u3
                    cases h5 : zeroB r.v true false false false false with
                    | false =>
                      have HR : Hid (R = false) := by rw [Hid, HZ.out]; simp [h0, h1, h2, hk6, h3, h4, hk1, hk4, hk2, h5]
                      clear HZ
                      go_wp2
                      go_ret
                      exact ⟨ret_bool HR.out.symm, b_u3⟩
                    | true =>
                      have HR : Hid (R = true) := by rw [Hid, HZ.out]; simp [h0, h1, h2, hk6, h3, h4, hk1, hk4, hk2, h5]
                      clear HZ
                      go_wp2
                      go_ret
                      exact ⟨ret_bool HR.out.symm, b_u3⟩
                  | false =>
                    cases hk3 : (r.kind == 3) with
                    | true =>
                      go_wp2_with fail
                      refine (HE.out u2 b_u2).mono ?_
                      clear x0 x1 x2 x3 x4 x5 x6 x7 x8 x9 x10 x11 x12 x13 x14
                      rintro e u3 ⟨rfl, hb_u3⟩
                      have b_u3 : Below w.heap.size w u3 := (b_u2).trans (hb_u3.mono (b_u2).size)
                      have l_u3 : Below W.heap.size W u3 := (l_u2).trans (hb_u3.mono (l_u2).size)
                      obtain ⟨x0, x1, x2, x3, x4, x5, x6, x7, x8, x9, x10, x11, x12, x13, x14⟩ := fifteen (HX.out u3 l_u3)
                      clear hb_u3
                      cases h5 : zeroB r.v true false false false false with
                      | false =>
                        have HR : Hid (R = false) := by rw [Hid, HZ.out]; simp [h0, h1, h2, hk6, h3, h4, hk1, hk4, hk2, hk3, h5]
                        clear HZ
                        go_wp2
                        go_ret
                        exact ⟨ret_bool HR.out.symm, b_u3⟩
                      | true =>
                        have HR : Hid (R = true) := by rw [Hid, HZ.out]; simp [h0, h1, h2, hk6, h3, h4, hk1, hk4, hk2, hk3, h5]
                        clear HZ
                        go_wp2
                        go_ret
                        exact ⟨ret_bool HR.out.symm, b_u3⟩
                    | false =>
                      cases hk5 : (r.kind == 5) with
                      | true =>
                        go_wp2_with fail
                        refine (HE.out u2 b_u2).mono ?_
                        clear x0 x1 x2 x3 x4 x5 x6 x7 x8 x9 x10 x11 x12 x13 x14
                        rintro e u3 ⟨rfl, hb_u3⟩
                        have b_u3 : Below w.heap.size w u3 := (b_u2).trans (hb_u3.mono (b_u2).size)
                        have l_u3 : Below W.heap.size W u3 := (l_u2).trans (hb_u3.mono (l_u2).size)
                        obtain ⟨x0, x1, x2, x3, x4, x5, x6, x7, x8, x9, x10, x11, x12, x13, x14⟩ := fifteen (HX.out u3 l_u3)
                        clear hb_u3
                        cases h5 : zeroB r.v true false false false false with
                        | false =>
                          have HR : Hid (R = false) := by rw [Hid, HZ.out]; simp [h0, h1, h2, hk6, h3, h4, hk1, hk4, hk2, hk3, hk5, h5]
                          clear HZ
                          go_wp2
                          go_ret
                          exact ⟨ret_bool HR.out.symm, b_u3⟩
                        | true =>
                          have HR : Hid (R = true) := by rw [Hid, HZ.out]; simp [h0, h1, h2, hk6, h3, h4, hk1, hk4, hk2, hk3, hk5, h5]
                          clear HZ
                          go_wp2
                          go_ret
                          exact ⟨ret_bool HR.out.symm, b_u3⟩
                      | false =>
                        have HR : Hid (R = false) := by rw [Hid, HZ.out]; simp [h0, h1, h2, hk6, h3, h4, hk1, hk4, hk2, hk3, hk5]
                        clear HZ
                        go_wp2
                        go_ret
                        exact ⟨ret_bool HR.out.symm, b_u2⟩
end Go.Proofs.YtbpdocjkhmiimaaGreatDoor

/- The walk of spec.Crc: it comes to crcOf. -/
namespace Go.Proofs.YtbpdocjkhmiimaaGreatDoor
open Go.RowKit

theorem i64_byte (c : Nat) (h : c < 256) : wrap64 (c : Int) = c := by unfold wrap64; omega

theorem spec_odd (x y : Nat) (hx : x < 4294967296) (h : (x : Int) % 2 = 1) (hy : y = crcBit x) : bits .xor .i64 ((x : Int) / 2) 3988292384 = (y : Int) := by
  rw [hy, crcBit_odd x h]
  have := i64_xor_nat (x / 2) 3988292384 (by omega) (by omega)
  rw [← this]
  rfl

theorem spec_end (x y : Nat) (hx : x < 4294967296) (hy : y = 4294967295 ^^^ x) : bits .xor .i64 (x : Int) 4294967295 = (y : Int) := by
  have := i64_xor_nat x 4294967295 hx (by omega)
  rw [hy, Nat.xor_comm, ← this]
  rfl

end Go.Proofs.YtbpdocjkhmiimaaGreatDoor

/- The walk of spec.l1Four. -/
namespace Go.Proofs.YtbpdocjkhmiimaaGreatDoor
open Go.RowKit

end Go.Proofs.YtbpdocjkhmiimaaGreatDoor

/- The walk of spec.Frame: it comes to frameOf. -/
namespace Go.Proofs.YtbpdocjkhmiimaaGreatDoor
open Go.RowKit

end Go.Proofs.YtbpdocjkhmiimaaGreatDoor
