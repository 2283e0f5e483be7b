/- The walk of laws.FnExactPutText. -/
import Derived.Test.YthakapbdnoiciaaPutText
import Derived.Test.YthakapbdnoiciaaHeld
namespace Go.Proofs.Ythakapbdnoiciaa
open Go.RowKit

set_option maxHeartbeats 800000 in
theorem lawPutText_walk (a : Option Addr) (cap : Nat) (zs : List Int) (s : ByteArray) (w : World) (hr : Reads w a zs) :
    Calls Try.prog 7 #[.slice a zs.length cap, .string s] w fun e w' => e = .returned (.bool true) ∧ Below w.heap.size w w' := by
  by_cases hbig : 1048576 < zs.length
  · go_enter Try.func7, Try.ntmps7
    go_wp2
    go_ret
    exact ⟨rfl, Below.refl _ _⟩
  by_cases hbig2 : 1048576 < s.size
  · go_enter Try.func7, Try.ntmps7
    go_wp2
    go_ret
    exact ⟨rfl, Below.refl _ _⟩
  · have HF : Hid ((zs ++ putTextOf s).length ≤ zs.length + s.size + 69) := by
      have := (putOf_len (s.size : Int)).2
      rw [Hid, List.length_append, putTextOf, List.length_append, sBytes_len]
      omega
    go_enter Try.func7, Try.ntmps7
    go_wp2_with fail
    refine (toByteS_own a cap zs w hr (by omega)).mono ?_
    rintro e w1 ⟨t1, c1, rfl, ho1, hb1⟩
    go_wp2_with fail
    refine (specPutText_any t1 c1 zs s w1 ho1.reads ho1.nocap (by omega)).mono ?_
    rintro e w2 ⟨t2, c2, fr, rfl, hfr, ow, hb2⟩
    have HFR : Hid (fr = zs ++ putTextOf s) := hfr
    have hfl : fr.length ≤ 2200000 := by have := HF.out; rw [hfr]; omega
    have B2 : Below w.heap.size w w2 := hb1.trans (hb2.mono hb1.size)
    clear hfr ho1 hb1 hb2
    have hr2 := hr.below B2
    go_wp2_with fail
    refine (toByteS_own a cap zs w2 hr2 (by omega)).mono ?_
    rintro e w3 ⟨t3, c3, rfl, ox, hb3⟩
    have ow3 := ow.below hb3
    have B3 : Below w.heap.size w w3 := B2.trans (hb3.mono B2.size)
    go_wp2_with fail
    refine (implPutText_any t3 c3 zs s w3 ox.reads ox.nocap (by omega)).mono ?_
    rintro e w4 ⟨t4, c4, gr, rfl, hgr, og, hb4⟩
    obtain rfl : gr = fr := by rw [hgr, HFR.out]
    clear hgr
    have ow4 := ow3.below hb4
    have ox4 := ox.below hb4
    have B4 : Below w.heap.size w w4 := B3.trans (hb4.mono B3.size)
    go_wp2_with fail
    refine (eqByteS_same t4 t2 c4 c2 gr w4 og.reads ow4.reads (by omega)).mono ?_
    rintro e w5 ⟨rfl, n5, rfl⟩
    have hr5 := hr.below (below_drewN B4 n5)
    go_wp2_with fail
    refine (toByteS_own a cap zs (w4.drewN n5) hr5 (by omega)).mono ?_
    rintro e w6 ⟨t6, c6, rfl, oc, hb6⟩
    have ow6 := (ow4.drewN n5).below hb6
    have ox6 := (ox4.drewN n5).below hb6
    have og6 := (og.drewN n5).below hb6
    have B6 : Below w.heap.size w w6 := (below_drewN B4 n5).trans (hb6.mono B4.size)
    go_wp2_with fail
    refine (eqByteS_same t3 t6 c3 c6 zs w6 ox6.reads oc.reads (by omega)).mono ?_
    rintro e w7 ⟨rfl, n7, rfl⟩
    go_wp2_with fail
    refine (markByteS_own w2.heap.size t3 c3 1 zs (w6.drewN n7) (ox6.drewN n7) (by omega) (by omega)).mono ?_
    rintro e w8 ⟨ms, rfl, hms, omx, hg8⟩
    have ow8 := (ow6.drewN n7).kept hg8 (fun k hk e => by have h1 := (ow.lt k hk).2; have h2 := (ox6.lt k e).1; omega)
    have og8 := (og6.drewN n7).kept hg8 (fun k hk e => by have h1 := (og.lt k hk).1; have h2 := (ox.lt k e).2; omega)
    have B8 : Below w.heap.size w w8 := (below_drewN B6 n7).grown hg8 B6.size (fun k hk => by have h1 := (ox6.lt k hk).1; have := B2.size; omega)
    go_wp2_with fail
    refine (eqByteS_same t4 t2 c4 c2 gr w8 og8.reads ow8.reads (by omega)).mono ?_
    rintro e w9 ⟨rfl, n9, rfl⟩
    go_wp2_with fail
    refine (markByteS_own w3.heap.size t4 c4 1 gr (w8.drewN n9) (og8.drewN n9) (by omega) (by omega)).mono ?_
    rintro e w10 ⟨mg, rfl, hmg, omg, hg10⟩
    have ow10 := (ow8.drewN n9).kept hg10 (fun k hk e => by have h1 := (ow3.lt k hk).2; have h2 := (og8.lt k e).1; omega)
    have B10 : Below w.heap.size w w10 := (below_drewN B8 n9).grown hg10 B8.size (fun k hk => by have h1 := (og8.lt k hk).1; have := B3.size; omega)
    go_wp2_with fail
    refine (heldByteS_own w3.heap.size t4 c4 1 gr.length mg w10 omg hmg (by omega) (by omega)).mono ?_
    rintro e w10' ⟨rfl, rfl⟩
    have hr10 := hr.below B10
    go_wp2_with fail
    refine (toByteS_own a cap zs w10' hr10 (by omega)).mono ?_
    rintro e w11 ⟨t11, c11, rfl, ox11, hb11⟩
    have ow11 := ow10.below hb11
    have omg11 := omg.below hb11
    have B11 : Below w.heap.size w w11 := B10.trans (hb11.mono B10.size)
    go_wp2_with fail
    refine (implPutText_any t11 c11 zs s w11 ox11.reads ox11.nocap (by omega)).mono ?_
    rintro e w12 ⟨t12, c12, hh, rfl, hhh, oh, hb12⟩
    obtain rfl : hh = gr := by rw [hhh, HFR.out]
    clear hhh
    have ow12 := ow11.below hb12
    have omg12 := omg11.below hb12
    have B12 : Below w.heap.size w w12 := B11.trans (hb12.mono B11.size)
    go_wp2_with fail
    refine (eqByteS_same t12 t2 c12 c2 hh w12 oh.reads ow12.reads (by omega)).mono ?_
    rintro e w13 ⟨rfl, n13, rfl⟩
    go_wp2_with fail
    refine (heldByteS_own w3.heap.size t4 c4 1 hh.length mg (w12.drewN n13) (omg12.drewN n13) hmg (by omega) (by omega)).mono ?_
    rintro e w14 ⟨rfl, rfl⟩
    go_wp2
    go_ret
    exact ⟨rfl, below_drewN B12 n13⟩
end Go.Proofs.Ythakapbdnoiciaa
