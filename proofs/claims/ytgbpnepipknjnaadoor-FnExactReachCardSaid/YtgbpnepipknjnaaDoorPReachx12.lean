/- Several texts in one, in their order. -/
import Derived.Test.YtgbpnepipknjnaaDoorPReachx11
import Derived.Test.YtgbpnepipknjnaaDoorProg
import Derived.Test.YtgbpnepipknjnaaDoorPReachx1
import Derived.Test.YtgbpnepipknjnaaDoorPReachx4
import Derived.Deep.QuietTactic
import Derived.BigQuiet
import Derived.Test.YtgbpnepipknjnaaDoorPReachx9
import Derived.Test.YtgbpnepipknjnaaDoorPReachx6
import Derived.Test.YtgbpnepipknjnaaDoorPReachx5
/- The walks of impl.markingOf and a marking's from. -/
namespace Go.Proofs.YtgbpnepipknjnaaDoor
open Go.RowKit

set_option maxHeartbeats 1000000 in
set_option maxRecDepth 100000 in
theorem markingOf_any (a : Option Addr) (n c most : Nat) (w : World) :
    Calls Tryd.prog 36 #[.slice a n c, .int .i64 (most : Int)] w fun e w' => ∃ M mb, e = .returned (.pointer (some ⟨M, 0, none⟩)) ∧ MkAt w w' M mb (.slice a n c) most emptyM := by
  have hmm := @run_makeMap Tryd.prog
  obtain ⟨W, hW⟩ : ∃ W, Hid (w.alloc (.map #[] 0) = W) := ⟨_, rfl⟩
  have m0 : KeysAt W w.heap.size [] := by rw [← hW.out]; exact keysAt_made w
  have hbW : Below w.heap.size w W := by rw [← hW.out]; exact (Below.refl _ _).alloc (Nat.le_refl _) _
  have hsW : W.heap.size = w.heap.size + 1 := by rw [← hW.out]; simp
  obtain ⟨V, hV, bV, hbV, hsV⟩ := boxes1 W [.slice a n c, .map (some w.heap.size), .slice none 0 0, .int .i64 (most : Int), .bool false, .int .i64 0] 63
  rw [hsW] at bV
  have HO : Hid (MkO w V (w.heap.size + 1) w.heap.size (.slice a n c) most emptyM none 0) := by
    refine ⟨bV, (setAt_none m0).below hbV, ownI_nil _ _ _ (Nat.le_refl _), by omega, fun k hk => ?_, ⟨by omega, Nat.le_refl _⟩, hbW.trans (hbV.mono hbW.size)⟩
    simp [Value.ownBlock] at hk
  clear m0 hbW bV hbV hsV hsW
  go_enter Tryd.func36, Tryd.ntmps36
  go_wp2_with fail
  rw [hW.out, hV.out]
  go_ret
  exact ⟨_, _, rfl, none, 0, HO.out⟩

theorem loopM_stop (vs : List SlotV) (most n : Nat) {st : MSt} (h : st.left = false) : loopM vs most n st = st := by
  cases n with
  | zero => rfl
  | succ n => rw [loopM, if_neg (by rw [h]; decide)]
theorem loopM_next (vs : List SlotV) (most n : Nat) {st : MSt} (h : st.left = true) : loopM vs most (n + 1) st = loopM vs most n (drainM vs most 72 (anewM vs most st)) := by rw [loopM, if_pos h]
/-- What holds between two looks through the view. -/
def BetwM (vs : List SlotV) (most : Nat) (FIN : MSt) (n : Nat) (st : MSt) : Prop := GoodM most st ∧ st.stack = [] ∧ restM st ≤ n ∧ loopM vs most n st = FIN ∧ 0 ≤ st.anew ∧ st.anew + n ≤ 65
theorem betwM_stop {vs : List SlotV} {most : Nat} {FIN : MSt} {n : Nat} {st : MSt} (h : BetwM vs most FIN n st) (hl : st.left = false) : st = FIN := by
  rw [← h.2.2.2.1, loopM_stop vs most n hl]
theorem betwM_next {vs : List SlotV} (hv : RngM vs) {most : Nat} (h1 : 1 ≤ most) (h40 : most ≤ 40) {FIN : MSt} {n : Nat} {st : MSt} (h : BetwM vs most FIN n st) (hl : st.left = true) : ∃ m, n = m + 1 ∧ BetwM vs most FIN m (drainM vs most 72 (anewM vs most st)) := by
  obtain ⟨g, e, r, f, a, b⟩ := h
  have hless := loopM_less hv h1 h40 g e hl
  obtain ⟨_, ha, hg⟩ := anewM_good (vs := vs) g
  obtain ⟨g2, e2, _⟩ := drainM_good hv 72 _ hg (hg.size h40)
  cases n with
  | zero => omega
  | succ m =>
    refine ⟨m, rfl, g2, e2, by omega, ?_, ?_, ?_⟩
    · rw [← f, loopM_next vs most m hl]
    · rw [drainM_anew, ha]; omega
    · rw [drainM_anew, ha]; omega
theorem betwM_first {vs : List SlotV} (hv : RngM vs) {most : Nat} (h40 : most ≤ 40) {root : Int} (hr : 0 ≤ root ∧ root ≤ 31) : BetwM vs most (runM vs most root) 65 (firstM vs most root) := by
  obtain ⟨g, e⟩ := firstM_good hv h40 hr
  have ha : (firstM vs most root).anew = 0 := by rw [firstM, drainM_anew, refM_anew]; rfl
  exact ⟨g, e, restM_le g, rfl, by rw [ha]; decide, by rw [ha]; decide⟩

set_option maxHeartbeats 4000000 in
set_option maxRecDepth 100000 in
theorem from_any {w0 : World} {M mb most b off c : Nat} {ss : List SlotA} (h1 : 1 ≤ most) (hm : most ≤ 40) (hv : viewB (vsOf ss) = true) (root : Nat) (hro : root < 32) (w : World) (hr : ReadsVw w0 (some ⟨b, off, none⟩) ss) (h32 : ss.length = 32) (h : MkAt w0 w M mb (.slice (some ⟨b, off, none⟩) 32 c) most emptyM) :
    Calls Tryd.prog 37 #[.pointer (some ⟨M, 0, none⟩), .int .i64 (root : Int)] w fun e w' => (∃ v, e = .returned v) ∧ MkAt w0 w' M mb (.slice (some ⟨b, off, none⟩) 32 c) most (runM (vsOf ss) most root) := by
  have HRG : Hid (RngM (vsOf ss)) := viewB_rng hv
  have HMISS : Hid (∀ (u : World) (st : MSt) (k : Nat), k < 32 → MkAt w0 u M mb (.slice (some ⟨b, off, none⟩) 32 c) most st → Calls Tryd.prog 52 #[.pointer (some ⟨M, 0, none⟩), .int .i64 (k : Int)] u fun e w' => e = .returned (.bool (missM (vsOf ss) st.met k)) ∧ Below u.heap.size u w') := fun u st k hk h => isMissed_any k hk u hr h32 h
  have HMARK : Hid (∀ (u : World) (st : MSt) (k : Nat), k < 32 → GoodM most st → MkAt w0 u M mb (.slice (some ⟨b, off, none⟩) 32 c) most st → Calls Tryd.prog 53 #[.pointer (some ⟨M, 0, none⟩), .int .i64 (k : Int)] u fun e w' => (∃ v, e = .returned v) ∧ MkAt w0 w' M mb (.slice (some ⟨b, off, none⟩) 32 c) most (markM most st k)) := fun u st k hk g h => mark_any hm g k hk u h
  have HDRAIN : Hid (∀ (u : World) (st : MSt), GoodM most st → MkAt w0 u M mb (.slice (some ⟨b, off, none⟩) 32 c) most st → Calls Tryd.prog 54 #[.pointer (some ⟨M, 0, none⟩)] u fun e w' => (∃ v, e = .returned v) ∧ MkAt w0 w' M mb (.slice (some ⟨b, off, none⟩) 32 c) most (drainM (vsOf ss) most 72 st)) := fun u st g h => drain_any hm g hv u hr h32 h
  have HLOOK : Hid (∀ (u : World) (st : MSt), GoodM most st → 0 ≤ st.anew → st.anew ≤ 1000 → MkAt w0 u M mb (.slice (some ⟨b, off, none⟩) 32 c) most st → Calls Tryd.prog 55 #[.pointer (some ⟨M, 0, none⟩)] u fun e w' => (∃ v, e = .returned v) ∧ MkAt w0 w' M mb (.slice (some ⟨b, off, none⟩) 32 c) most (anewM (vsOf ss) most st)) := fun u st g a b h => lookAnew_any hm g hv ⟨a, b⟩ u hr h32 h
  have HFIRST : Hid (drainM (vsOf ss) most 72 (refM (vsOf ss) most emptyM root) = firstM (vsOf ss) most root ∧ BetwM (vsOf ss) most (runM (vsOf ss) most root) 65 (firstM (vsOf ss) most root) ∧ GoodM most (refM (vsOf ss) most emptyM root)) := ⟨rfl, betwM_first (viewB_rng hv) hm (by omega), refM_good (emptyM_good most) (by omega)⟩
  generalize vsOf ss = vs at *
  generalize Value.slice (some ⟨b, off, none⟩) 32 c = vw at *
  obtain ⟨FIN, HFIN⟩ : ∃ FIN, Hid (runM vs most root = FIN) := ⟨_, rfl⟩
  rw [HFIN.out] at HFIRST ⊢
  obtain ⟨aS, cS, hO⟩ := h
  have HO : Hid (MkO w0 w M mb vw most emptyM aS cS) := hO
  have c1 := hO.box.cell 1 _ rfl
  have hset := hO.set
  clear hO hv hr h32 HFIN
  go_enter Tryd.func37, Tryd.ntmps37
  go_upto_region 1 with (first | (guard_target = wpList _ _ _ (Oper.mk none (Op.call _) _ _ _ _ :: _) _ _; refine wpList_clear_s rfl _ rfl mb emptyM.met rfl hset ?_; intro w1 hs1 hg1) | fail)
  have HO1 : Hid (MkO w0 w1 M mb vw most emptyM aS cS) := HO.out.marked hs1 hg1
  clear HO hs1 hg1 c1 hset
  have c5 := HO1.out.box.cell 5 _ rfl
  have f5 := HO1.out.box.frozen 5
  obtain ⟨W2, hW2, hO2⟩ := HO1.out.cell (st' := emptyM) 5 (.int .i64 0) rfl rfl rfl
  have HM2 : Hid (∀ u, Below W2.heap.size W2 u → MkAt w0 u M mb vw most emptyM) := fun u hu => ⟨_, _, hO2.below hu⟩
  have C := HMISS.out W2 emptyM root hro ⟨_, _, hO2⟩
  have HRF : Hid (refM vs most emptyM root = if missM vs emptyM.met root = true then markM most emptyM root else emptyM) := rfl
  clear HO1 hO2
  go_upto_region 2 with fail
  rw [hW2.out]
  clear hW2 c5 f5
  have KEY : Hid (∀ u, MkAt w0 u M mb vw most (refM vs most emptyM root) → Calls Tryd.prog 54 #[.pointer (some ⟨M, 0, none⟩)] u fun e w' => (∃ v, e = .returned v) ∧ MkAt w0 w' M mb vw most (firstM vs most root)) := fun u hu => HDRAIN.out u _ HFIRST.out.2.2 hu
  cases hmb : missM vs emptyM.met root with
  | false =>
    rw [hmb] at C
    have HEQ : Hid (refM vs most emptyM root = emptyM) := by rw [Hid, HRF.out, if_neg (by rw [hmb]; decide)]
    clear hmb HRF HMARK
    go_wp2_with fail
    refine C.mono ?_
    rintro e WX ⟨rfl, hb3⟩
    have HX : MkAt w0 WX M mb vw most (refM vs most emptyM root) := by rw [HEQ.out]; exact HM2.out WX hb3
    clear C HM2 hb3 HEQ HMISS
    have C5 := KEY.out WX HX
    clear KEY
    go_wp2_with fail
    refine C5.mono ?_
    rintro e w5 ⟨⟨x5, rfl⟩, hM5⟩
    clear C5
    go_wp2_with fail
    go_loopg [19] 65 (fun n _ wr => ∃ st' : MSt, MkAt w0 wr M mb vw most st' ∧ Hid (BetwM vs most FIN n st'))
    case atStart => exact ⟨_, hM5, HFIRST.out.2.1⟩
    case round =>
      obtain ⟨st', hMr, hB⟩ := hrel
      clear hM5 HFIRST
      obtain ⟨aR, cR, hO⟩ := hMr
      have c4 := hO.box.cell 4 _ rfl
      cases hl : st'.left with
      | false =>
        rw [hl] at c4
        have HE : Hid (st' = FIN) := betwM_stop hB.out hl
        clear hl hB HRG HDRAIN HLOOK
        go_wp2_with fail
        refine bodyPost_end (results_none rfl _ _ _) rfl ?_
        exact ⟨⟨_, rfl⟩, by rw [← HE.out]; exact ⟨_, _, hO⟩⟩
      | true =>
        rw [hl] at c4
        obtain ⟨m, HN⟩ : ∃ m, Hid (gk = m + 1 ∧ BetwM vs most FIN m (drainM vs most 72 (anewM vs most st'))) := betwM_next HRG.out h1 hm hB.out hl
        have C6 := HLOOK.out wr st' hB.out.1 hB.out.2.2.2.2.1 (by have := hB.out.2.2.2.2.2; omega) ⟨_, _, hO⟩
        have HGA : Hid (GoodM most (anewM vs most st')) := (anewM_good hB.out.1).2.2
        clear hl hB HLOOK hO
        go_wp2_with fail
        refine C6.mono ?_
        rintro e w6 ⟨⟨x6, rfl⟩, hM6⟩
        have C7 := HDRAIN.out w6 _ HGA.out hM6
        clear C6 hM6 HDRAIN c4
        go_wp2_with fail
        refine C7.mono ?_
        rintro e w7 ⟨⟨x7, rfl⟩, hM7⟩
        clear C7
        go_wp2_with fail
        go_roundg m
        case rel => exact ⟨_, hM7, HN.out.2⟩
        case measure => have := HN.out.1; omega
  | true =>
    rw [hmb] at C
    have HEQ : Hid (refM vs most emptyM root = markM most emptyM root) := by rw [Hid, HRF.out, if_pos hmb]
    clear hmb HRF
    go_wp2_with fail
    refine C.mono ?_
    rintro e w3 ⟨rfl, hb3⟩
    have C4 := HMARK.out w3 emptyM root hro (emptyM_good most) (HM2.out w3 hb3)
    clear C HM2 hb3 HMISS HMARK
    go_wp2_with fail
    refine C4.mono ?_
    rintro e WX ⟨⟨x4, rfl⟩, hM4⟩
    have HX : MkAt w0 WX M mb vw most (refM vs most emptyM root) := by rw [HEQ.out]; exact hM4
    clear C4 hM4 HEQ
    have C5 := KEY.out WX HX
    clear KEY
    go_wp2_with fail
    refine C5.mono ?_
    rintro e w5 ⟨⟨x5, rfl⟩, hM5⟩
    clear C5
    go_wp2_with fail
    go_loopg [19] 65 (fun n _ wr => ∃ st' : MSt, MkAt w0 wr M mb vw most st' ∧ Hid (BetwM vs most FIN n st'))
    case atStart => exact ⟨_, hM5, HFIRST.out.2.1⟩
    case round =>
      obtain ⟨st', hMr, hB⟩ := hrel
      clear hM5 HFIRST
      obtain ⟨aR, cR, hO⟩ := hMr
      have c4 := hO.box.cell 4 _ rfl
      cases hl : st'.left with
      | false =>
        rw [hl] at c4
        have HE : Hid (st' = FIN) := betwM_stop hB.out hl
        clear hl hB HRG HDRAIN HLOOK
        go_wp2_with fail
        refine bodyPost_end (results_none rfl _ _ _) rfl ?_
        exact ⟨⟨_, rfl⟩, by rw [← HE.out]; exact ⟨_, _, hO⟩⟩
      | true =>
        rw [hl] at c4
        obtain ⟨m, HN⟩ : ∃ m, Hid (gk = m + 1 ∧ BetwM vs most FIN m (drainM vs most 72 (anewM vs most st'))) := betwM_next HRG.out h1 hm hB.out hl
        have C6 := HLOOK.out wr st' hB.out.1 hB.out.2.2.2.2.1 (by have := hB.out.2.2.2.2.2; omega) ⟨_, _, hO⟩
        have HGA : Hid (GoodM most (anewM vs most st')) := (anewM_good hB.out.1).2.2
        clear hl hB HLOOK hO
        go_wp2_with fail
        refine C6.mono ?_
        rintro e w6 ⟨⟨x6, rfl⟩, hM6⟩
        have C7 := HDRAIN.out w6 _ HGA.out hM6
        clear C6 hM6 HDRAIN c4
        go_wp2_with fail
        refine C7.mono ?_
        rintro e w7 ⟨⟨x7, rfl⟩, hM7⟩
        clear C7
        go_wp2_with fail
        go_roundg m
        case rel => exact ⟨_, hM7, HN.out.2⟩
        case measure => have := HN.out.1; omega
end Go.Proofs.YtgbpnepipknjnaaDoor

/- Rows of marks (bools): what the call owns, and laws.eqBoolS, markBoolS, heldBoolS. -/
namespace Go.Proofs.YtgbpnepipknjnaaDoor
open Go.RowKit

theorem Tryd.infoBool : (Tryd.prog.info? 4).map (fun i => (i.zero, i.size, i.bytes)) = some (some (.bool false), 1, 1) := by kernel_rfl
def ReadsBl (w : World) (a : Option Addr) (ns : List Bool) : Prop :=
  ns ≠ [] → ∃ b off, a = some ⟨b, off, none⟩ ∧ ∀ i, i < ns.length → w.cell? ⟨b, off + i, none⟩ = some (.bool (ns.getD i false))
/-- The slice at a, of capacity c, owns the numbers ns; its row lies from lo up to hi. -/
def OwnBl (w : World) (lo hi : Nat) (a : Option Addr) (c : Nat) (ns : List Bool) : Prop :=
  w.ownsRow lo 4 1 (.slice a ns.length c) ns.length (ns.map (Value.bool)) ∧ hi ≤ w.heap.size ∧ ∀ k, (Value.slice a ns.length c).ownBlock = some k → k < hi

theorem OwnBl.lt {w : World} {lo hi : Nat} {a : Option Addr} {c : Nat} {ns : List Bool} (h : OwnBl w lo hi a c ns) : ∀ k, (Value.slice a ns.length c).ownBlock = some k → lo ≤ k ∧ k < hi := fun k hk => ⟨(h.1.lt k hk).1, h.2.2 k hk⟩

theorem OwnBl.within {w w' : World} {lo hi l r : Nat} {a : Option Addr} {c : Nat} {ns : List Bool} (h : OwnBl w lo hi a c ns) (hw : Within l r w w') (hd : hi ≤ l ∨ r ≤ lo) : OwnBl w' lo hi a c ns :=
  ⟨ownsRow_block h.1 (fun k hk => hw.block k (by have := h.2.2 k hk; have := h.2.1; omega) (by have := h.lt k hk; omega)), Nat.le_trans h.2.1 hw.size, h.2.2⟩
theorem OwnBl.below {w w' : World} {lo hi : Nat} {a : Option Addr} {c : Nat} {ns : List Bool} (h : OwnBl w lo hi a c ns) (hb : Below w.heap.size w w') : OwnBl w' lo hi a c ns :=
  h.within (Within.of_below (lo := w.heap.size) (hi := w.heap.size) hb) (.inl h.2.1)
theorem OwnBl.widen {w : World} {lo hi lo' hi' : Nat} {a : Option Addr} {c : Nat} {ns : List Bool} (h : OwnBl w lo hi a c ns) (h1 : lo' ≤ lo) (h2 : hi ≤ hi') (h3 : hi' ≤ w.heap.size) : OwnBl w lo' hi' a c ns :=
  ⟨ownsRow_base h.1 (fun k hk => by have := h.lt k hk; omega), h3, fun k hk => by have := h.lt k hk; omega⟩

theorem OwnBl.reads {w : World} {lo hi : Nat} {a : Option Addr} {c : Nat} {ns : List Bool} (h : OwnBl w lo hi a c ns) : ReadsBl w a ns := by
  intro hne
  rcases h.1.2 with ⟨_, h0⟩ | ⟨g, cap', cur, hv, hb, hg, hr⟩
  · exact absurd (List.length_eq_zero_iff.1 h0) hne
  · simp only [Value.slice.injEq] at hv
    obtain ⟨rfl, _, rfl⟩ := hv
    refine ⟨g, 0, rfl, fun i hi => ?_⟩
    have := h.1.cellAt i (by omega)
    rw [Nat.zero_add, this]
    simp [List.getD, hi]

theorem OwnBl.nocap {w : World} {lo hi : Nat} {a : Option Addr} {c : Nat} {ns : List Bool} (h : OwnBl w lo hi a c ns) : a = none → c = 0 := by
  intro ha
  rcases h.1.2 with ⟨hv, _⟩ | ⟨g, cap, cur, hv, _⟩
  · simp only [Value.slice.injEq] at hv; exact hv.2.2
  · simp [ha] at hv
theorem OwnBl.len_cap {w : World} {lo hi : Nat} {a : Option Addr} {c : Nat} {ns : List Bool} (h : OwnBl w lo hi a c ns) : ns.length ≤ c := by
  rcases h.1.2 with ⟨hv, h0⟩ | ⟨g, cap, cur, hv, _, _, hn, _⟩
  · omega
  · simp only [Value.slice.injEq] at hv; omega

theorem ReadsBl.cases {w : World} {a : Option Addr} {ns : List Bool} (h : ReadsBl w a ns) :
    ns = [] ∨ ∃ b off, a = some ⟨b, off, none⟩ ∧ 0 < ns.length ∧ (∀ i, i < ns.length → w.cell? ⟨b, off + i, none⟩ = some (.bool (ns.getD i false))) := by
  by_cases e : ns = []
  · exact .inl e
  · obtain ⟨b, off, ha, hc⟩ := h e
    exact .inr ⟨b, off, ha, List.length_pos_iff.2 e, hc⟩

theorem ReadsBl.below {w w' : World} {a : Option Addr} {ns : List Bool} (h : ReadsBl w a ns) (hb : Below w.heap.size w w') : ReadsBl w' a ns := by
  intro hne
  obtain ⟨b, off, ha, hc⟩ := h hne
  refine ⟨b, off, ha, fun i hi => ?_⟩
  rw [hb.cell (p := ⟨b, off + i, none⟩) (block_lt (hc i hi))]
  exact hc i hi
theorem ReadsBl.nil (w : World) (a : Option Addr) : ReadsBl w a [] := fun h => absurd rfl h
theorem OwnBl.touch {w w' : World} {lo hi : Nat} {a : Option Addr} {c : Nat} {ns : List Bool} {bl : List Nat} (h : OwnBl w lo hi a c ns) (ht : Touch bl w w') (hd : ∀ k, (Value.slice a ns.length c).ownBlock = some k → k ∉ bl) : OwnBl w' lo hi a c ns :=
  ⟨ownsRow_block h.1 (fun k hk => ht.block k (h.1.lt k hk).2 (hd k hk)), Nat.le_trans h.2.1 ht.size, h.2.2⟩
theorem OwnBl.stored {w : World} {lo hi g c : Nat} {ns : List Bool} (h : OwnBl w lo hi (some ⟨g, 0, none⟩) c ns) (i : Nat) (x : Bool) : ∃ W, Hid (w.setCell ⟨g, i, none⟩ (.bool x) = W) ∧ OwnBl W lo hi (some ⟨g, 0, none⟩) c (ns.set i x) ∧ w.grownBy W (some g) ∧ W.heap.size = w.heap.size := by
  have := h.1.stored i (.bool x)
  refine ⟨_, rfl, ⟨?_, by simp; exact h.2.1, fun k hk => h.2.2 k (by simpa [Value.ownBlock] using hk)⟩, this.2, by simp⟩
  rw [List.length_set, List.map_set]
  exact this.1
end Go.Proofs.YtgbpnepipknjnaaDoor

/- The walk of spec.FreeSlot. -/
namespace Go.Proofs.YtgbpnepipknjnaaDoor
open Go.RowKit

end Go.Proofs.YtgbpnepipknjnaaDoor

/- The walks of spec.l3Slot and spec.PageOk. -/
namespace Go.Proofs.YtgbpnepipknjnaaDoor
open Go.RowKit

theorem slotB_of (o : ObjV) (a b c : Bool) (h1 : decide (o.kind = 0) = a) (h2 : decide (o.ints.length = 0) = b) (h3 : decide (o.refs.length = 0) = c) : slotB ⟨false, o⟩ = (a && (b && c)) := by
  rw [← h1, ← h2, ← h3]; rfl

set_option maxHeartbeats 400000 in
set_option maxRecDepth 100000 in
theorem l3Slot_any (s : SlotA) (w : World) (hr : s.reads w) (hl : Fit [s]) :
    Calls Tryd.prog 42 #[.agg s.cells.toArray] w fun e w' => e = .returned (.bool (slotB s.v)) ∧ Below w.heap.size w w' := by
  obtain ⟨h1, h2⟩ := hl s (List.mem_singleton.2 rfl)
  obtain ⟨W, hW, b0, hbW, hsW⟩ := boxes1 w s.cells 37
  have hr' : s.reads W := ReadsO.below hr hbW
  obtain ⟨⟨h, o⟩, aI, cI, aR, cR⟩ := s
  simp only [SlotA.cells, SlotA.reads] at *
  cases h with
  | true =>
    have C1 := specObjOk_any o aI cI aR cR W hr' (by omega) (by omega)
    have HE : Hid (slotB ⟨true, o⟩ = okB o) := slotB_has rfl
    generalize slotB ⟨true, o⟩ = R at *
    go_enter Tryd.func42, Tryd.ntmps42
    go_wp2_with fail
    rw [hW.out]
    refine C1.mono ?_
    rintro e w1 ⟨rfl, hb1⟩
    go_wp2
    go_ret
    exact ⟨ret_bool HE.out.symm, hbW.trans (hb1.mono hbW.size)⟩
  | false =>
    have HE := slotB_of o
    generalize slotB ⟨false, o⟩ = R at *
    obtain ⟨k, ints, refs⟩ := o
    obtain ⟨x0, x1, x2, x3, _⟩ := b0.four
    simp only at *
    by_cases hk : k = 0
    case neg =>
      have HR : Hid (R = false) := HE false _ _ (decide_eq_false hk) rfl rfl
      have hkb : (k == 0) = false := by simpa using hk
      clear HE hk
      go_enter Tryd.func42, Tryd.ntmps42
      go_wp2
      go_ret
      exact ⟨ret_bool HR.out.symm, by rw [hW.out]; exact hbW⟩
    case pos =>
    subst hk
    by_cases hi : ints.length = 0
    case neg =>
      have HR : Hid (R = false) := HE true false _ (decide_eq_true rfl) (decide_eq_false hi) rfl
      have hib : ((ints.length : Int) == 0) = false := by simp; exact fun e => hi (by rw [e]; rfl)
      clear HE hi
      go_enter Tryd.func42, Tryd.ntmps42
      go_wp2
      go_ret
      exact ⟨ret_bool HR.out.symm, by rw [hW.out]; exact hbW⟩
    case pos =>
    by_cases hj : refs.length = 0
    case neg =>
      have HR : Hid (R = false) := HE true true false (decide_eq_true rfl) (decide_eq_true hi) (decide_eq_false hj)
      have hib : ((ints.length : Int) == 0) = true := by simp; exact List.length_eq_zero_iff.1 hi
      have hjb : ((refs.length : Int) == 0) = false := by simp; exact fun e => hj (by rw [e]; rfl)
      clear HE hi hj
      go_enter Tryd.func42, Tryd.ntmps42
      go_wp2
      go_ret
      exact ⟨ret_bool HR.out.symm, by rw [hW.out]; exact hbW⟩
    case pos =>
      have HR : Hid (R = true) := HE true true true (decide_eq_true rfl) (decide_eq_true hi) (decide_eq_true hj)
      have hib : ((ints.length : Int) == 0) = true := by simp; exact List.length_eq_zero_iff.1 hi
      have hjb : ((refs.length : Int) == 0) = true := by simp; exact List.length_eq_zero_iff.1 hj
      clear HE hi hj
      go_enter Tryd.func42, Tryd.ntmps42
      go_wp2
      go_ret
      exact ⟨ret_bool HR.out.symm, by rw [hW.out]; exact hbW⟩

end Go.Proofs.YtgbpnepipknjnaaDoor

/- The walk of spec.ViewOk. -/
namespace Go.Proofs.YtgbpnepipknjnaaDoor
open Go.RowKit

set_option maxHeartbeats 1000000 in
set_option maxRecDepth 100000 in
theorem specViewOk_any (a : Option Addr) (c : Nat) (ss : List SlotA) (w : World) (hr : ReadsVw w a ss) (hf : Fit ss) :
    Calls Tryd.prog 20 #[.slice a ss.length c] w fun e w' => e = .returned (.bool (viewB (vsOf ss))) ∧ Below w.heap.size w w' := by
  by_cases h32 : ss.length = 32
  · have HV : Hid (viewB (vsOf ss) = (!(ss.getD 0 zeroS).v.has && (vsOf ss).all slotB)) := by
      rw [Hid, viewB_zero (by rw [vsOf_len]; exact h32), vsOf_at]
    obtain ⟨b, off, rfl, hc⟩ := hr (by intro e; rw [e] at h32; simp at h32)
    have hra := (hc 0 (by omega)).1
    rw [Nat.zero_mul, Nat.add_zero] at hra
    have HC : Hid (∀ u, Below w.heap.size w u → ∀ k, k < 32 → u.rangeAt b (off + k * 4) (ss.getD k zeroS).cells ∧ (ss.getD k zeroS).reads u ∧ Fit [ss.getD k zeroS]) := fun u hu k hk => by
      rw [← h32] at hk
      obtain ⟨h1, h2⟩ := hc k hk
      exact ⟨range_belowV h1 hu, ReadsO.below h2 hu, hf.one hk⟩
    have HL := vsOf_len ss
    have HHIT : Hid (∀ k, k < 32 → slotB (ss.getD k zeroS).v = false → (vsOf ss).all slotB = false) := fun k hk h => all_hit (z := noS) (k := k) (by omega) (by rw [vsOf_at]; exact h)
    have HSTEP : Hid (∀ k, k < 32 → ((vsOf ss).take k).all slotB = true → slotB (ss.getD k zeroS).v = true → ((vsOf ss).take (k + 1)).all slotB = true) := fun k hk h h1 => all_step (z := noS) (by omega) h (by rw [vsOf_at]; exact h1)
    have HEND : Hid (∀ k, ¬ k < 32 → ((vsOf ss).take k).all slotB = true → (vsOf ss).all slotB = true) := fun k hk h => all_end (by omega) h
    generalize viewB (vsOf ss) = R at *
    generalize (vsOf ss).all slotB = B at *
    generalize vsOf ss = L at *
    have c0 : w.cell? ⟨b, off, none⟩ = some (.bool (ss.getD 0 zeroS).v.has) := hra 0 _ rfl
    rw [h32]
    clear hc hra h32 hf hr HL
    generalize (ss.getD 0 zeroS).v.has = zb at *
    cases zb with
    | true =>
      have HR : Hid (R = false) := HV.out
      clear HV HC HHIT HSTEP HEND
      go_enter Tryd.func20, Tryd.ntmps20
      go_wp2
      go_ret
      exact ⟨ret_bool HR.out.symm, Below.refl _ _⟩
    | false =>
      have HR : Hid (R = B) := HV.out
      clear HV
      go_enter Tryd.func20, Tryd.ntmps20
      go_wp2
      clear c0
      go_loopw [3] (fun i wr => ∃ k : Nat, k ≤ 32 ∧ i = .int .i64 k ∧ Hid ((L.take k).all slotB = true) ∧ Below w.heap.size w wr) (fun i _ => 32 - (intOf i).toNat)
      case atStart => exact ⟨0, by omega, rfl, (show (L.take 0).all slotB = true by simp), Below.refl _ _⟩
      case round =>
        obtain ⟨k, hk, rfl, hall, hbl⟩ := hrel
        by_cases hlt : k < 32
        · obtain ⟨hra, hrz, hfz⟩ := HC.out wr hbl k hlt
          have HH1 : Hid (slotB (ss.getD k zeroS).v = false → B = false) := fun h => HHIT.out k hlt h
          have HH2 : Hid (slotB (ss.getD k zeroS).v = true → (L.take (k + 1)).all slotB = true) := fun h => HSTEP.out k hlt hall.out h
          clear HC HHIT HSTEP HEND hall
          generalize ss.getD k zeroS = z at *
          have C := l3Slot_any z wr hrz hfz
          simp only [SlotA.cells] at hra C
          have c0 := hra 0 _ rfl
          have c1 := hra 1 _ rfl
          have c2 := hra 2 _ rfl
          have c3 := hra 3 _ rfl
          rw [Nat.add_zero] at c0
          generalize slotB z.v = zb at *
          clear hra hrz hfz
          cases zb with
          | false =>
            have HF : Hid (R = false) := HR.out.trans (HH1.out rfl)
            clear HH1 HH2 HR
            go_wp2_with fail
            refine C.mono ?_
            rintro e w1 ⟨rfl, hb1⟩
            go_wp2
            go_ret
            exact ⟨ret_bool HF.out.symm, hbl.trans (hb1.mono hbl.size)⟩
          | true =>
            have HN : Hid ((L.take (k + 1)).all slotB = true) := HH2.out rfl
            clear HH1 HH2
            go_wp2_with fail
            refine C.mono ?_
            rintro e w1 ⟨rfl, hb1⟩
            have hB1 : Below w.heap.size w w1 := hbl.trans (hb1.mono hbl.size)
            clear C hb1 hbl c0 c1 c2 c3
            go_wp2_with fail
            go_roundw
            case rel => exact ⟨k + 1, by omega, by go_num, HN, hB1⟩
            case measure => simp [intOf]; omega
        · have HT : Hid (R = true) := HR.out.trans (HEND.out k hlt hall.out)
          obtain rfl : k = 32 := by omega
          clear HC HHIT HSTEP HEND hall HR
          go_wp2
          go_ret
          exact ⟨ret_bool HT.out.symm, hbl⟩
  · have HR : Hid (viewB (vsOf ss) = false) := viewB_len (by rw [vsOf_len]; exact h32)
    have hne : ((ss.length : Int) == 32) = false := by rw [beq_eq_false_iff_ne]; omega
    generalize viewB (vsOf ss) = R at *
    clear hf hr
    go_enter Tryd.func20, Tryd.ntmps20
    go_wp2
    go_ret
    exact ⟨ret_bool HR.out.symm, Below.refl _ _⟩
end Go.Proofs.YtgbpnepipknjnaaDoor

/- The walks of spec.l11Call, l11Lacks, Mark. -/
namespace Go.Proofs.YtgbpnepipknjnaaDoor
open Go.RowKit

set_option maxHeartbeats 1000000 in
set_option maxRecDepth 100000 in
theorem l11Call_any (a : Option Addr) (c : Nat) (ss : List SlotA) (root : Int) (w : World) (hr : ReadsVw w a ss) (hf : Fit ss) :
    Calls Tryd.prog 45 #[.slice a ss.length c, .int .i64 root] w fun e w' => e = .returned (.bool (viewB (vsOf ss) && inB root 1 31)) ∧ Below w.heap.size w w' := by
  have C := specViewOk_any a c ss w hr hf
  generalize viewB (vsOf ss) = B at *
  have HL : Hid (∀ u, Calls Tryd.prog 47 #[.int .i64 root, .int .i64 1, .int .i64 31] u fun e w' => e = .returned (.bool (inB root 1 31)) ∧ w' = u) := fun u => l1In_any root 1 31 u
  generalize inB root 1 31 = I at *
  clear hr hf
  cases B with
  | false =>
    go_enter Tryd.func45, Tryd.ntmps45
    go_wp2_with fail
    refine C.mono ?_
    rintro e w1 ⟨rfl, hb1⟩
    go_wp2
    go_ret
    exact ⟨rfl, hb1⟩
  | true =>
    go_enter Tryd.func45, Tryd.ntmps45
    go_wp2_with fail
    refine C.mono ?_
    rintro e w1 ⟨rfl, hb1⟩
    clear C
    go_wp2_with fail
    refine (HL.out w1).mono ?_
    rintro e w2 ⟨rfl, rfl⟩
    go_wp2
    go_ret
    exact ⟨ret_bool (by simp), hb1⟩

/-- Marks in a row at g and a stack at a, made since w0. -/
structure SpI (w0 w : World) (g : Nat) (a : Option Addr) (c : Nat) (S : List Bool) (T : List Int) : Prop where
  met : OwnBl w w0.heap.size w.heap.size (some ⟨g, 0, none⟩) 32 S
  stk : OwnI w w0.heap.size w.heap.size a c T
  ne : ∀ k, (Value.slice a T.length c).ownBlock = some k → k ≠ g
  bel : Below w0.heap.size w0 w
theorem SpI.cell {w0 w : World} {g : Nat} {a : Option Addr} {c : Nat} {S : List Bool} {T : List Int} (h : SpI w0 w g a c S T) (hS : S.length = 32) (k : Nat) (hk : k < 32) : w.cell? ⟨g, k, none⟩ = some (.bool (S.getD k false)) := by
  obtain ⟨b, off, e, hc⟩ := h.met.reads (by intro e; rw [e] at hS; simp at hS)
  simp only [Option.some.injEq, Addr.mk.injEq, and_true] at e
  obtain ⟨rfl, rfl⟩ := e
  have := hc k (by omega)
  rwa [Nat.zero_add] at this
theorem SpI.set {w0 w : World} {g : Nat} {a : Option Addr} {c : Nat} {S : List Bool} {T : List Int} (h : SpI w0 w g a c S T) (y : Nat) : ∃ W, Hid (w.setCell ⟨g, y, none⟩ (.bool true) = W) ∧ SpI w0 W g a c (S.set y true) T := by
  obtain ⟨W, hW, h1, h2, h3⟩ := h.met.stored y true
  have hlo : w0.heap.size ≤ g := (h.met.1.lt _ rfl).1
  refine ⟨W, hW, by rw [h3]; exact h1, ⟨ownsRow_block h.stk.1 (fun k hk => h2.block k (h.stk.2.2 k hk) (fun e => h.ne k hk (Option.some.inj e))), Nat.le_refl _, fun k hk => Nat.lt_of_lt_of_le (h.stk.2.2 k hk) h2.size⟩, h.ne, h.bel.grown h2 h.bel.size (fun j hj => by cases hj; exact hlo)⟩
theorem SpI.push {w0 w w4 : World} {o : Obj} {g : Nat} {a a4 : Option Addr} {c c4 : Nat} {S : List Bool} {T y4 : List Int} (h : SpI w0 w g a c S T) (ho : OwnI w4 w0.heap.size w4.heap.size a4 c4 y4) (hg : (w.alloc o).grownBy w4 (Value.slice a T.length c).ownBlock) (hk : ∀ k, (Value.slice a4 y4.length c4).ownBlock = some k → (Value.slice a T.length c).ownBlock = some k ∨ k = (w.alloc o).heap.size) : SpI w0 w4 g a4 c4 S y4 := by
  have ha := (Below.refl w.heap.size w).alloc (Nat.le_refl _) o
  have hglt : g < w.heap.size := h.met.2.2 g rfl
  have hm := h.met.below ha
  refine ⟨⟨ownsRow_block hm.1 (fun k hk2 => hg.block k (hm.1.lt k hk2).2 (fun e => by cases hk2; exact h.ne g e.symm rfl)), Nat.le_refl _, fun k hk2 => Nat.lt_of_lt_of_le (hm.1.lt k hk2).2 hg.size⟩, ho, fun k hk2 => ?_, (h.bel.trans (ha.mono h.bel.size)).grown hg (Nat.le_trans h.bel.size ha.size) (fun j hj => (h.stk.1.lt j hj).1)⟩
  rcases hk k hk2 with h2 | h2
  · exact h.ne k h2
  · simp at h2; omega
theorem SpI.cut {w0 w : World} {g bt offt : Nat} {c : Nat} {S : List Bool} {T : List Int} {x : Int} (h : SpI w0 w g (some ⟨bt, offt, none⟩) c S (T ++ [x])) : SpI w0 w g (some ⟨bt, offt, none⟩) c S T := by
  have := h.stk.cut T.length (by simp)
  rw [List.take_left] at this
  exact ⟨h.met, this, fun k hk => h.ne k (by simpa [Value.ownBlock] using hk), h.bel⟩

end Go.Proofs.YtgbpnepipknjnaaDoor
