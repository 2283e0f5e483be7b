/- The walk of laws.FnExactGetObj. -/
import Derived.Test.YtdibmepjbabnnacDoorGetObjSpec
import Derived.Test.YtdibmepjbabnnacDoorGetObj
import Derived.Test.YtdibmepjbabnnacDoorObjLaw
import Derived.Test.YtdibmepjbabnnacDoorHeldR
import Derived.Test.YtdibmepjbabnnacDoorOpenB
namespace Go.Proofs.YtdibmepjbabnnacDoor
open Go.RowKit

theorem getPair_len (zs : List Int) (o : ObjV) (ok : Bool) (h : getPair zs = (o, ok)) : o.ints.length ≤ 5 ∧ o.refs.length ≤ 5 := by
  unfold getPair at h
  split at h
  · rename_i o' ho
    have h1 : o' = o := (Prod.mk.inj h).1
    subst h1
    have := okB_bd (getO_ok ho)
    exact ⟨this.2.1, this.2.2.1⟩
  · have h1 : noO = o := (Prod.mk.inj h).1
    subst h1
    simp [noO]

set_option maxHeartbeats 2000000 in
set_option maxRecDepth 100000 in
theorem lawGetObj_walk (a : Option Addr) (cap : Nat) (zs : List Int) (w : World) (hg : ErrT w) (hr : Reads w a zs) :
    Calls Tryd.prog 3 #[.slice a zs.length cap] w fun e w' => e = .returned (.bool true) ∧ Below w.heap.size w w' := by
  by_cases hbig : 1048576 < zs.length
  · go_enter Tryd.func3, Tryd.ntmps3
    go_wp2
    go_ret
    exact ⟨rfl, Below.refl _ _⟩
  go_enter Tryd.func3, Tryd.ntmps3
  go_wp2_with fail
  refine (toByteS_own a cap zs w hr (by omega)).mono ?_
  rintro e w1 ⟨t1, c1, rfl, ho1, hb1⟩
  go_wp2_with fail
  refine (specGetObj_any t1 c1 zs w1 ho1.reads (by omega)).mono ?_
  rintro e w2 ⟨pI, dI, pR, dR, o, ok, rfl, HGP, ow, hb2⟩
  obtain ⟨hl1, hl2⟩ := getPair_len zs o ok HGP.out
  have hs1 := hb1.size
  have hs2 := hb2.size
  obtain ⟨W3, hW3, bA, hbW3, hsW3⟩ := boxes1 w2 [.int .i64 o.kind, .slice pI o.ints.length dI, .slice pR o.refs.length dR] 25
  have N3 : Below w.heap.size w W3 := (hb1.trans (hb2.mono hs1)).trans (hbW3.mono (by omega))
  have ow3 := ow.below hbW3
  have W3e := hW3.out
  go_wp2_with fail
  refine (toByteS_own a cap zs W3 (hr.below N3) (by omega)).mono ?_
  rintro e w4 ⟨t4, c4, rfl, ho4, hb4⟩
  clear W3e
  have hs4 := hb4.size
  have ox4 := ho4.spanned
  go_wp2_with fail
  refine (implGetObj_any t4 c4 zs w4 (hg.keep (N3.trans (hb4.mono N3.size))) ho4.reads (by omega) ho4.len_cap).mono ?_
  rintro e w5 ⟨qI, eI, qR, eR, o', ok', rfl, HGP', og, hb5⟩
  obtain ⟨rfl, rfl⟩ : o' = o ∧ ok' = ok := by have h := HGP'.out; rw [HGP.out] at h; simp only [Prod.mk.injEq] at h; exact ⟨h.1.symm, h.2.symm⟩
  clear HGP'
  have hs5 := hb5.size
  obtain ⟨W6, hW6, bG, hbW6, hsW6⟩ := boxes1 w5 [.int .i64 o'.kind, .slice qI o'.ints.length eI, .slice qR o'.refs.length eR] 25
  have M36 : Below W3.heap.size W3 W6 := (hb4.trans (hb5.mono hs4)).trans (hbW6.mono (by omega))
  have M46 : Below w4.heap.size w4 W6 := hb5.trans (hbW6.mono (by omega))
  have bA6 := bA.below M36 bA.lt
  have ow6 := ow3.below M36
  have ox6 := ox4.below M46
  have og6 := og.below hbW6
  have N6 : Below w.heap.size w W6 := N3.trans (M36.mono (by omega))
  have u0 := bA6.cell 0 _ rfl
  have u1 := bA6.cell 1 _ rfl
  have u2 := bA6.cell 2 _ rfl
  have v0 := bG.cell 0 _ rfl
  have v1 := bG.cell 1 _ rfl
  have v2 := bG.cell 2 _ rfl
  have W6e := hW6.out
  go_wp2_with fail
  refine (eqObj_same o' qI eI qR eR pI dI pR dR W6 og6.reads ow6.reads (by omega) (by omega)).mono ?_
  rintro e w7 ⟨rfl, hb7⟩
  clear W6e u0 u1 u2 v0 v1 v2
  have hs7 := hb7.size
  have N7 : Below w.heap.size w w7 := N6.trans (hb7.mono (by omega))
  go_wp2_with fail
  refine (toByteS_own a cap zs w7 (hr.below N7) (by omega)).mono ?_
  rintro e w8 ⟨t8, c8, rfl, ho8, hb8⟩
  have M68 : Below W6.heap.size W6 w8 := hb7.trans (hb8.mono hs7)
  have ox8 := ox6.below M68
  have hs8 := hb8.size
  go_wp2_with fail
  refine (eqByteS_same t4 t8 c4 c8 zs w8 ox8.reads ho8.reads (by omega)).mono ?_
  rintro e w9 ⟨rfl, n9, rfl⟩
  have M69 : Below W6.heap.size W6 (w8.drewN n9) := below_drewN M68 n9
  have ox9 := ox6.below M69
  have ow9 := ow6.below M69
  have og9 := og6.below M69
  have bA9 := bA6.below M69 bA6.lt
  have bG9 := bG.below M69 bG.lt
  have N9 : Below w.heap.size w (w8.drewN n9) := N6.trans (M69.mono (by omega))
  have hs9 : W6.heap.size ≤ (w8.drewN n9).heap.size := M69.size
  generalize w8.drewN n9 = w9 at *
  clear ox8 ox6 ow6 og6 bA6 bG ho8 hb8 ho4 ho1
  go_wp2_with fail
  refine (markByteS_r W3.heap.size w4.heap.size t4 c4 1 zs w9 ox9 (by omega) (by omega)).mono ?_
  rintro e w10 ⟨mx, rfl, hmx, omx, hw10⟩
  have hs10 := hw10.size
  have ow10 : OwnO w10 w1.heap.size w2.heap.size pI dI pR dR o' := ow9.within hw10 (.inl (by omega))
  have og10 : OwnO w10 w4.heap.size w5.heap.size qI eI qR eR o' := og9.within hw10 (.inr (by omega))
  have bA10 := bA9.within hw10 (by omega)
  have bG10 := bG9.within hw10 (by omega)
  have N10 : Below w.heap.size w w10 := N9.trans (hw10.below (by omega) (by omega))
  have u0 := bA10.cell 0 _ rfl
  have u1 := bA10.cell 1 _ rfl
  have u2 := bA10.cell 2 _ rfl
  have v0 := bG10.cell 0 _ rfl
  have v1 := bG10.cell 1 _ rfl
  have v2 := bG10.cell 2 _ rfl
  go_wp2_with fail
  refine (eqObj_same o' qI eI qR eR pI dI pR dR w10 og10.reads ow10.reads (by omega) (by omega)).mono ?_
  rintro e w11 ⟨rfl, hb11⟩
  have hs11 := hb11.size
  have og11 := og10.below hb11
  have ow11 := ow10.below hb11
  have bA11 := bA10.below hb11 bA10.lt
  have bG11 := bG10.below hb11 bG10.lt
  have N11 : Below w.heap.size w w11 := N10.trans (hb11.mono (by omega))
  clear u0 u1 u2 v0 v1 v2
  have v0 := bG11.cell 0 _ rfl
  have v1 := bG11.cell 1 _ rfl
  have v2 := bG11.cell 2 _ rfl
  go_wp2_with fail
  refine (markObj_own o' w4.heap.size w5.heap.size qI eI qR eR 1 w11 og11 (by omega) (by omega) (by omega) (by omega)).mono ?_
  rintro e w12 ⟨rfl, og12, hw12⟩
  have hs12 := hw12.size
  have ow12 : OwnO w12 w1.heap.size w2.heap.size pI dI pR dR o' := ow11.within hw12 (.inl (by omega))
  have bA12 := bA11.within hw12 (by omega)
  have bG12 := bG11.within hw12 (by omega)
  have N12 : Below w.heap.size w w12 := N11.trans (hw12.below (by omega) (by omega))
  clear v0 v1 v2
  have v0 := bG12.cell 0 _ rfl
  have v1 := bG12.cell 1 _ rfl
  have v2 := bG12.cell 2 _ rfl
  go_wp2_with fail
  refine (heldObj_own o' w4.heap.size w5.heap.size qI eI qR eR 1 w12 og12 (by omega) (by omega) (by omega) (by omega)).mono ?_
  rintro e w13 ⟨rfl, hb13⟩
  have hs13 := hb13.size
  have N13 : Below w.heap.size w w13 := N12.trans (hb13.mono (by omega))
  go_wp2_with fail
  refine (toByteS_own a cap zs w13 (hr.below N13) (by omega)).mono ?_
  rintro e w14 ⟨t14, c14, rfl, ho14, hb14⟩
  have hs14 := hb14.size
  go_wp2_with fail
  refine (implGetObj_any t14 c14 zs w14 (hg.keep (N13.trans (hb14.mono N13.size))) ho14.reads (by omega) ho14.len_cap).mono ?_
  rintro e w15 ⟨rI, fI, rR, fR, o2, ok2, rfl, HG2, oh, hb15⟩
  obtain ⟨rfl, rfl⟩ : o2 = o' ∧ ok2 = ok' := by have h := HG2.out; rw [HGP.out] at h; simp only [Prod.mk.injEq] at h; exact ⟨h.1.symm, h.2.symm⟩
  have hs15 := hb15.size
  obtain ⟨W16, hW16, bH, hbW16, hsW16⟩ := boxes1 w15 [.int .i64 o2.kind, .slice rI o2.ints.length fI, .slice rR o2.refs.length fR] 25
  have M16 : Below w12.heap.size w12 W16 := ((hb13.trans (hb14.mono hs13)).trans (hb15.mono (by omega))).trans (hbW16.mono (by omega))
  have ow16 := ow12.below M16
  have og16 := og12.below M16
  have bA16 := bA12.below M16 bA12.lt
  have bG16 := bG12.below M16 bG12.lt
  have oh16 := oh.below hbW16
  have N16 : Below w.heap.size w W16 := N12.trans (M16.mono (by omega))
  clear v0 v1 v2
  have u0 := bA16.cell 0 _ rfl
  have u1 := bA16.cell 1 _ rfl
  have u2 := bA16.cell 2 _ rfl
  have v0 := bH.cell 0 _ rfl
  have v1 := bH.cell 1 _ rfl
  have v2 := bH.cell 2 _ rfl
  have W16e := hW16.out
  go_wp2_with fail
  refine (eqObj_same o2 rI fI rR fR pI dI pR dR W16 oh16.reads ow16.reads (by omega) (by omega)).mono ?_
  rintro e w17 ⟨rfl, hb17⟩
  clear W16e u0 u1 u2 v0 v1 v2
  have bG17 := bG16.below hb17 bG16.lt
  have og17 := og16.below hb17
  have v0 := bG17.cell 0 _ rfl
  have v1 := bG17.cell 1 _ rfl
  have v2 := bG17.cell 2 _ rfl
  have N17 : Below w.heap.size w w17 := N16.trans (hb17.mono (by have := N16.size; omega))
  go_wp2_with fail
  refine (heldObj_own o2 w4.heap.size w5.heap.size qI eI qR eR 1 w17 og17 (by omega) (by omega) (by omega) (by omega)).mono ?_
  rintro e w18 ⟨rfl, hb18⟩
  go_wp2
  go_ret
  exact ⟨rfl, N17.trans (hb18.mono (by have := N17.size; omega))⟩
end Go.Proofs.YtdibmepjbabnnacDoor
