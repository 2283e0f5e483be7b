/- Several texts in one, in their order. -/
import Derived.Test.YtajcffchopcamaaGreatDoorPFnPathsx14
import Derived.Deep.QuietTactic
import Derived.BigQuiet
import Derived.Deep.LoopGhost
import Derived.Deep.Cut
import Derived.Test.YtajcffchopcamaaGreatDoorProg
import Derived.Test.YtajcffchopcamaaGreatDoorPFnPathsx2
import Derived.Test.YtajcffchopcamaaGreatDoorPFnPathsx5
/- The walks of a marking's isMissed, put, mark. -/
namespace Go.Proofs.YtajcffchopcamaaGreatDoor
open Go.RowKit

/-- A slot of the view, wherever the world has come. -/
theorem view_cells {w0 u : World} {b off : Nat} {ss : List SlotA} (hr : ReadsVw w0 (some ⟨b, off, none⟩) ss) (h32 : ss.length = 32) (hu : Below w0.heap.size w0 u) (k : Nat) (hk : k < 32) :
    u.cell? ⟨b, off + k * 4, none⟩ = some (.bool ((vsOf ss).getD k noS).has) ∧ (∃ aR cR, u.cell? ⟨b, off + k * 4 + 3, none⟩ = some (.slice aR (refsM (vsOf ss) k).length cR) ∧ ReadsI u aR (refsM (vsOf ss) k)) := by
  obtain ⟨b', off', e, hc⟩ := (hr.below hu) (by intro e; rw [e] at h32; simp at h32)
  simp only [Option.some.injEq, Addr.mk.injEq, and_true] at e
  obtain ⟨rfl, rfl⟩ := e
  obtain ⟨h1, h2⟩ := hc k (by omega)
  rw [vsOf_at]
  refine ⟨h1 0 _ rfl, (ss.getD k zeroS).aR, (ss.getD k zeroS).cR, ?_, ?_⟩
  · have := h1 3 _ rfl
    rw [refsM, Int.toNat_natCast, vsOf_at]
    exact this
  · rw [refsM, Int.toNat_natCast, vsOf_at]
    exact h2.refs

set_option maxHeartbeats 1000000 in
set_option maxRecDepth 100000 in
theorem isMissed_any {w0 : World} {M mb most b off c : Nat} {ss : List SlotA} {st : MSt} (k : Nat) (hk : k < 32) (w : World) (hr : ReadsVw w0 (some ⟨b, off, none⟩) ss) (h32 : ss.length = 32) (h : MkAt w0 w M mb (.slice (some ⟨b, off, none⟩) 32 c) most st) :
    Calls Tryz.prog 68 #[.pointer (some ⟨M, 0, none⟩), .int .i64 (k : Int)] w fun e w' => e = .returned (.bool (missM (vsOf ss) st.met k)) ∧ Below w.heap.size w w' := by
  obtain ⟨aS, cS, h⟩ := h
  have c0 := h.box.cell 0 _ rfl
  have c1 := h.box.cell 1 _ rfl
  have v0 := (view_cells hr h32 h.bel k hk).1
  have C := setHas_any mb st.met k (by omega) w h.set
  have HM : Hid (missM (vsOf ss) st.met k = (((vsOf ss).getD k noS).has && !metM st.met k)) := by rw [Hid, missM, hasM, Int.toNat_natCast]
  have hkI : (k : Int) < 32 := by omega
  generalize missM (vsOf ss) st.met k = R at *
  generalize ((vsOf ss).getD k noS).has = hb at *
  generalize metM st.met k = mk at *
  clear hr h32 h hk
  cases hb with
  | false =>
    have HR : Hid (R = false) := HM.out
    clear C HM
    go_enter Tryz.func68, Tryz.ntmps68
    go_wp2
    go_ret
    exact ⟨ret_bool HR.out.symm, Below.refl _ _⟩
  | true =>
    have HR : Hid (R = !mk) := HM.out
    clear HM
    go_enter Tryz.func68, Tryz.ntmps68
    go_wp2_with fail
    refine C.mono ?_
    rintro e w1 ⟨rfl, hb1⟩
    go_wp2
    go_ret
    exact ⟨ret_bool HR.out.symm, hb1⟩

set_option maxHeartbeats 1000000 in
set_option maxRecDepth 100000 in
theorem put_any {w0 : World} {M mb most : Nat} {v : Value} {st : MSt} (hm : most ≤ 40) (g : GoodM most st) (k : Nat) (w : World) (h : MkAt w0 w M mb v most st) :
    Calls Tryz.prog 94 #[.pointer (some ⟨M, 0, none⟩), .int .i64 (k : Int)] w fun e w' => (∃ v, e = .returned v) ∧ MkAt w0 w' M mb v most (putM most st k) := by
  obtain ⟨aS, cS, h⟩ := h
  have c2 := h.box.cell 2 _ rfl
  have c3 := h.box.cell 3 _ rfl
  have f4 := h.box.frozen 4
  have f2 := h.box.frozen 2
  have hroom := g.room
  by_cases hfull : st.stack.length < most
  · have HP : Hid (putM most st k = ⟨st.met, st.stack ++ [(k : Int)], st.left, st.anew⟩) := by rw [Hid, putM, if_pos hfull]
    have hne : ((st.stack.length : Int) == (most : Int)) = false := by rw [beq_eq_false_iff_ne]; omega
    have HH : Hid (MkO w0 w M mb v most st aS cS) := h
    have hll : st.stack.length ≤ 40 := by omega
    clear h g hroom hfull
    go_enter Tryz.func94, Tryz.ntmps94
    go_wp2_with fail
    go_quiet (fail)
    have HQ : Hid (MkO w0 (w.drewN nq) M mb v most st aS cS) := HH.out.below (below_drewN (Below.refl _ _) nq)
    clear c2 c3 f4 f2 HH
    generalize w.drewN nq = wq at *
    have c2 := HQ.out.box.cell 2 _ rfl
    have ho := HQ.out.own
    have hlo := HQ.out.bel.size
    have ho3 := ho.below ((Below.refl _ _).alloc (Nat.le_refl _) (.cells #[.int .i64 (k : Int)] 3))
    go_wp2_with (first | (at_builtin; refine append_intsM rfl _ _ rfl w0.heap.size wq.heap.size aS cS st.stack rfl ho3 _ _ [(k : Int)] rfl (readsI_one wq k _) (fun h => by cases h) (by simp; omega) (by simp; omega) ?_; intro a4 c4 y4 w4 hy4 ho4 hg4 hk4; obtain ⟨b4, s4, n4, l4⟩ := HQ.out.appended hg4 hk4; have x4 := b4.cell 2 _ rfl; have z4 := b4.frozen 2) | fail)
    obtain ⟨W, hW, hO⟩ := HQ.out.stacked b4 s4 ho4 n4 l4
    rw [hW.out]
    refine bodyPost_end (results_none rfl _ _ _) rfl ?_
    refine ⟨⟨_, rfl⟩, a4, c4, ?_⟩
    rw [HP.out, ← hy4.out]
    exact hO
  · have HP : Hid (putM most st k = ⟨st.met, st.stack, true, st.anew⟩) := by rw [Hid, putM, if_neg hfull]
    have he : ((st.stack.length : Int) == (most : Int)) = true := by rw [beq_iff_eq]; omega
    have HH : Hid (MkO w0 w M mb v most st aS cS) := h
    clear h g hroom hfull
    go_enter Tryz.func94, Tryz.ntmps94
    go_wp2_with fail
    go_quiet (fail)
    have HQ : Hid (MkO w0 (w.drewN nq) M mb v most st aS cS) := HH.out.below (below_drewN (Below.refl _ _) nq)
    clear c2 c3 f4 f2 HH
    generalize w.drewN nq = wq at *
    have c4 := HQ.out.box.cell 4 _ rfl
    have f4 := HQ.out.box.frozen 4
    obtain ⟨W, hW, hO⟩ := HQ.out.cell (st' := ⟨st.met, st.stack, true, st.anew⟩) 4 (.bool true) rfl rfl rfl
    go_wp2_with fail
    rw [hW.out]
    (try simp only [Exit.inBlock, Exit.then])
    refine bodyPost_ret (results_none rfl _ _ _) rfl ?_
    refine ⟨⟨_, rfl⟩, aS, cS, ?_⟩
    rw [HP.out]
    exact hO

set_option maxHeartbeats 1000000 in
set_option maxRecDepth 100000 in
theorem mark_any {w0 : World} {M mb most : Nat} {v : Value} {st : MSt} (hm : most ≤ 40) (g : GoodM most st) (k : Nat) (hk : k < 32) (w : World) (h : MkAt w0 w M mb v most st) :
    Calls Tryz.prog 69 #[.pointer (some ⟨M, 0, none⟩), .int .i64 (k : Int)] w fun e w' => (∃ v, e = .returned v) ∧ MkAt w0 w' M mb v most (markM most st k) := by
  obtain ⟨aS, cS, h⟩ := h
  have c1 := h.box.cell 1 _ rfl
  have C := setAdd_any mb st.met g.len k (by omega) w h.set
  have g1 : GoodM most ⟨st.met.set (k : Int).toNat true, st.stack, st.left, st.anew⟩ := ⟨by simp only [List.length_set]; exact g.len, g.room, g.rng⟩
  have HC : Hid (∀ w1, MkAt w0 w1 M mb v most ⟨st.met.set (k : Int).toNat true, st.stack, st.left, st.anew⟩ → Calls Tryz.prog 94 #[.pointer (some ⟨M, 0, none⟩), .int .i64 (k : Int)] w1 fun e w' => (∃ v, e = .returned v) ∧ MkAt w0 w' M mb v most (markM most st k)) := fun w1 h1 => put_any hm g1 k w1 h1
  have HH : Hid (MkO w0 w M mb v most st aS cS) := h
  generalize markM most st k = R at *
  clear h g g1
  go_enter Tryz.func69, Tryz.ntmps69
  go_wp2_with fail
  refine C.mono ?_
  rintro e w1 ⟨⟨x1, rfl⟩, hs1, hg1⟩
  have C2 := HC.out w1 ⟨aS, cS, HH.out.marked hs1 hg1⟩
  clear C HC hs1 hg1 c1
  go_wp2_with fail
  refine C2.mono ?_
  rintro e w2 ⟨⟨x2, rfl⟩, h2⟩
  go_wp2_with fail
  refine bodyPost_end (results_none rfl _ _ _) rfl ?_
  exact ⟨⟨_, rfl⟩, h2⟩
end Go.Proofs.YtajcffchopcamaaGreatDoor

/- The walk of a marking's drain. -/
namespace Go.Proofs.YtajcffchopcamaaGreatDoor
open Go.RowKit

theorem drainM_nil (vs : List SlotV) (most n : Nat) {st : MSt} (h : st.stack = []) : drainM vs most n st = st := by
  cases n with
  | zero => rfl
  | succ n => rw [drainM, if_pos h]
theorem drainM_app (vs : List SlotV) (most n : Nat) (S : List Bool) (T : List Int) (x : Int) (l : Bool) (a : Int) : drainM vs most (n + 1) ⟨S, T ++ [x], l, a⟩ = drainM vs most n ((refsM vs x).foldl (refM vs most) ⟨S, T, l, a⟩) := by
  rw [drainM, if_neg (by simp), popM, topM_app, cutM_app]
theorem foldM_step (vs : List SlotV) (most : Nat) (F : List Int) (st : MSt) (n : Nat) (h : n < F.length) : (F.take (n + 1)).foldl (refM vs most) st = refM vs most ((F.take n).foldl (refM vs most) st) (F.getD n 0) := by
  rw [take_step F 0 n h, List.foldl_append]
  rfl
theorem view_refs {w0 : World} {b off : Nat} {ss : List SlotA} (hr : ReadsVw w0 (some ⟨b, off, none⟩) ss) (h32 : ss.length = 32) (k : Nat) (hk : k < 32) :
    ∃ aR cR, ∀ u, Below w0.heap.size w0 u → u.cell? ⟨b, off + k * 4 + 3, none⟩ = some (.slice aR (refsM (vsOf ss) k).length cR) ∧ ReadsI u aR (refsM (vsOf ss) k) := by
  refine ⟨(ss.getD k zeroS).aR, (ss.getD k zeroS).cR, fun u hu => ?_⟩
  obtain ⟨b', off', e, hc⟩ := (hr.below hu) (by intro e; rw [e] at h32; simp at h32)
  simp only [Option.some.injEq, Addr.mk.injEq, and_true] at e
  obtain ⟨rfl, rfl⟩ := e
  obtain ⟨h1, h2⟩ := hc k (by omega)
  rw [refsM, Int.toNat_natCast, vsOf_at]
  exact ⟨h1 3 _ rfl, h2.refs⟩
theorem mem_getDM {F : List Int} {n : Nat} (h : n < F.length) : F.getD n 0 ∈ F := by simp [List.getD, h]

set_option maxHeartbeats 4000000 in
set_option maxRecDepth 100000 in
theorem drain_any {w0 : World} {M mb most b off c : Nat} {ss : List SlotA} {st : MSt} (hm : most ≤ 40) (g : GoodM most st) (hv : viewB (vsOf ss) = true) (w : World) (hr : ReadsVw w0 (some ⟨b, off, none⟩) ss) (h32 : ss.length = 32) (h : MkAt w0 w M mb (.slice (some ⟨b, off, none⟩) 32 c) most st) :
    Calls Tryz.prog 70 #[.pointer (some ⟨M, 0, none⟩)] w fun e w' => (∃ v, e = .returned v) ∧ MkAt w0 w' M mb (.slice (some ⟨b, off, none⟩) 32 c) most (drainM (vsOf ss) most 72 st) := by
  have HV : Hid (∀ k : Nat, k < 32 → ∃ aR cR, ∀ u, Below w0.heap.size w0 u → u.cell? ⟨b, off + k * 4 + 3, none⟩ = some (.slice aR (refsM (vsOf ss) k).length cR) ∧ ReadsI u aR (refsM (vsOf ss) k)) := fun k hk => view_refs hr h32 k hk
  have HRG : Hid (RngM (vsOf ss)) := viewB_rng hv
  have HLN : Hid (∀ i, (refsM (vsOf ss) i).length ≤ 5) := viewB_refs hv
  have HMISS : Hid (∀ (u : World) (st : MSt) (k : Nat), k < 32 → MkAt w0 u M mb (.slice (some ⟨b, off, none⟩) 32 c) most st → Calls Tryz.prog 68 #[.pointer (some ⟨M, 0, none⟩), .int .i64 (k : Int)] u fun e w' => e = .returned (.bool (missM (vsOf ss) st.met k)) ∧ Below u.heap.size u w') := fun u st k hk h => isMissed_any k hk u hr h32 h
  have HMARK : Hid (∀ (u : World) (st : MSt) (k : Nat), k < 32 → GoodM most st → MkAt w0 u M mb (.slice (some ⟨b, off, none⟩) 32 c) most st → Calls Tryz.prog 69 #[.pointer (some ⟨M, 0, none⟩), .int .i64 (k : Int)] u fun e w' => (∃ v, e = .returned v) ∧ MkAt w0 w' M mb (.slice (some ⟨b, off, none⟩) 32 c) most (markM most st k)) := fun u st k hk g h => mark_any hm g k hk u h
  have HS : Hid (GoodM most st ∧ sizeM st ≤ 72) := ⟨g, g.size hm⟩
  obtain ⟨FIN, HFIN⟩ : ∃ FIN, Hid (drainM (vsOf ss) most 72 st = FIN) := ⟨_, rfl⟩
  rw [HFIN.out]
  clear hr h32 hv g
  generalize vsOf ss = vs at *
  generalize hvw : Value.slice (some ⟨b, off, none⟩) 32 c = vw at *
  have HVW : Hid (Value.slice (some ⟨b, off, none⟩) 32 c = vw) := hvw
  clear hvw
  go_enter Tryz.func70, Tryz.ntmps70
  go_wp2_with fail
  go_loopg [2] 72 (fun n _ wr => ∃ st' : MSt, MkAt w0 wr M mb vw most st' ∧ Hid (GoodM most st' ∧ sizeM st' ≤ n ∧ drainM vs most n st' = FIN))
  case atStart => exact ⟨st, h, HS.out.1, HS.out.2, HFIN.out⟩
  case round =>
    obtain ⟨st', ⟨aS, cS, hO⟩, hI⟩ := hrel
    obtain ⟨S, T, lf, an⟩ := st'
    clear h HS HFIN
    have c2 := hO.box.cell 2 _ rfl
    rcases List.eq_nil_or_concat T with hT | ⟨T', x, hT⟩
    · subst hT
      have HE : Hid (FIN = ⟨S, [], lf, an⟩) := by rw [Hid, ← hI.out.2.2, drainM_nil]; rfl
      clear hI HV HRG HLN HMISS HMARK
      go_wp2_with fail
      refine bodyPost_end (results_none rfl _ _ _) rfl ?_
      exact ⟨⟨_, rfl⟩, by rw [HE.out]; exact ⟨aS, cS, hO⟩⟩
    · rw [List.concat_eq_append] at hT
      subst hT
      obtain ⟨xn, hxe, hx32⟩ : ∃ xn : Nat, x = xn ∧ xn < 32 := by
        have := hI.out.1.rng x (by simp)
        exact ⟨x.toNat, by omega, by omega⟩
      subst hxe
      have ho := hO.own
      simp only at ho c2
      obtain ⟨bt, offt, rfl, hct⟩ := ho.reads (by simp)
      have t0 := hct T'.length (by simp)
      have e0 : (T' ++ [(xn : Int)]).getD T'.length 0 = xn := by simp [List.getD]
      rw [e0] at t0
      have hox := ho.cut T'.length (by simp)
      rw [List.take_left] at hox
      have hcap := ho.len_cap
      have hroom := hI.out.1.room
      simp only at hroom
      have f2 := hO.box.frozen 2
      obtain ⟨W, hW, hO2⟩ := hO.stacked hO.box hO.set hox (fun k hk => hO.nS k (by simpa [Value.ownBlock] using hk)) hO.bel
      have c0 := hO2.box.cell 0 _ rfl
      rw [← HVW.out] at c0
      obtain ⟨aF, cF, hFR⟩ := HV.out xn hx32
      have hF0 := (hFR W hO2.bel).1
      have HFI : Hid (_) := HRG.out xn
      have HFL := HLN.out xn
      have HFV : Hid (∀ u, Below w0.heap.size w0 u → ReadsI u aF (refsM vs xn)) := fun u hu => (hFR u hu).2
      have HG2 : Hid (GoodM most ⟨S, T', lf, an⟩ ∧ ∃ m, gk = m + 1 ∧ sizeM ⟨S, T', lf, an⟩ ≤ m ∧ drainM vs most m ((refsM vs xn).foldl (refM vs most) ⟨S, T', lf, an⟩) = FIN) := by
        obtain ⟨h1, h2, h3⟩ := hI.out
        refine ⟨⟨h1.len, by have := h1.room; simp at this ⊢; omega, fun y hy => h1.rng y (List.mem_append.2 (.inl hy))⟩, ?_⟩
        have h4 : sizeM ⟨S, T' ++ [(xn : Int)], lf, an⟩ = sizeM ⟨S, T', lf, an⟩ + 1 := by simp [sizeM]; omega
        cases gk with
        | zero => omega
        | succ m => exact ⟨m, rfl, by omega, by rw [← h3, drainM_app]⟩
      generalize refsM vs xn = F at *
      have hcap' : T'.length + 1 ≤ cS := by simpa using hcap
      have hTl : T'.length + 1 ≤ 40 := by simp at hroom; omega
      simp only [List.length_append, List.length_cons, List.length_nil, Nat.zero_add] at c2
      have hxI : (xn : Int) < 32 := by omega
      have HO2 : Hid (MkAt w0 W M mb vw most ⟨S, T', lf, an⟩) := ⟨_, _, hO2⟩
      clear hO hI ho hct e0 hox hcap hroom hO2 HV HRG HLN hFR
      go_upto_region 4 with fail
      rw [hW.out]
      clear hW c2 f2 t0
      go_wp2_with fail
      clear c0 hF0
      go_loopw [44] (fun i wr => ∃ n : Nat, n ≤ F.length ∧ i = .int .i64 n ∧ MkAt w0 wr M mb vw most ((F.take n).foldl (refM vs most) ⟨S, T', lf, an⟩) ∧ Hid (GoodM most ((F.take n).foldl (refM vs most) ⟨S, T', lf, an⟩))) (fun i _ => F.length - (RowKit.intOf i).toNat)
      case atStart => exact ⟨0, Nat.zero_le _, rfl, HO2.out, HG2.out.1⟩
      case round =>
        obtain ⟨n, hn, rfl, hMk, hGd⟩ := hrel
        by_cases hlt : n < F.length
        · obtain ⟨bf, offf, rfl, hcf⟩ := HFV.out wr hMk.bel (by intro e; rw [e] at hlt; simp at hlt)
          have f0 := hcf n hlt
          have HNX : Hid (_ = _) := foldM_step vs most F ⟨S, T', lf, an⟩ n hlt
          obtain ⟨y, hye, hy32⟩ : ∃ y : Nat, F.getD n 0 = y ∧ y < 32 := by
            have := HFI.out _ (mem_getDM hlt)
            exact ⟨(F.getD n 0).toNat, by omega, by omega⟩
          rw [hye] at f0 HNX
          clear hcf hye HO2
          generalize (F.take n).foldl (refM vs most) ⟨S, T', lf, an⟩ = s2 at *
          have C := HMISS.out wr s2 y hy32 hMk
          have HGN : Hid (GoodM most (refM vs most s2 y)) := refM_good hGd.out (by omega)
          have HRF : Hid (refM vs most s2 y = if missM vs s2.met y = true then markM most s2 y else s2) := rfl
          have C2 : Hid (∀ u, Below wr.heap.size wr u → Calls Tryz.prog 69 #[.pointer (some ⟨M, 0, none⟩), .int .i64 (y : Int)] u fun e w' => (∃ v, e = .returned v) ∧ MkAt w0 w' M mb vw most (markM most s2 y)) := fun u hu => HMARK.out u s2 y hy32 hGd.out (hMk.below hu)
          cases hmb : missM vs s2.met y with
          | false =>
            rw [hmb] at C
            have HEQ : Hid (refM vs most s2 y = s2) := by rw [Hid, HRF.out, if_neg (by rw [hmb]; decide)]
            have HM3 : Hid (∀ u, Below wr.heap.size wr u → MkAt w0 u M mb vw most s2) := fun u hu => hMk.below hu
            clear hmb HRF C2 hMk
            go_wp2_with fail
            refine C.mono ?_
            rintro e w1 ⟨rfl, hb1⟩
            have HM4 := HM3.out w1 hb1
            clear C HM3 hb1 f0
            go_wp2_with fail
            go_roundw
            case rel => exact ⟨n + 1, by omega, by go_num, by rw [HNX.out, HEQ.out]; exact HM4, by rw [HNX.out]; exact HGN⟩
            case measure => simp [RowKit.intOf]; omega
          | true =>
            rw [hmb] at C
            have HEQ : Hid (refM vs most s2 y = markM most s2 y) := by rw [Hid, HRF.out, if_pos hmb]
            clear hmb HRF hMk
            go_wp2_with fail
            refine C.mono ?_
            rintro e w1 ⟨rfl, hb1⟩
            have C3 := C2.out w1 hb1
            clear C C2 hb1 f0
            go_wp2_with fail
            refine C3.mono ?_
            rintro e w2 ⟨⟨x2, rfl⟩, hM4⟩
            clear C3
            go_wp2_with fail
            go_roundw
            case rel => exact ⟨n + 1, by omega, by go_num, by rw [HNX.out, HEQ.out]; exact hM4, by rw [HNX.out]; exact HGN⟩
            case measure => simp [RowKit.intOf]; omega
        · have HT : Hid (F.take n = F) := List.take_of_length_le (by omega)
          rw [HT.out] at hMk hGd
          have HSZ : Hid (sizeM (F.foldl (refM vs most) ⟨S, T', lf, an⟩) ≤ sizeM ⟨S, T', lf, an⟩) := (foldM_good F _ HG2.out.1 HFI.out).2.1
          obtain ⟨m, HGM⟩ : ∃ m, Hid (gk = m + 1 ∧ sizeM ⟨S, T', lf, an⟩ ≤ m ∧ drainM vs most m (F.foldl (refM vs most) ⟨S, T', lf, an⟩) = FIN) := HG2.out.2
          clear HT HG2 HFV HFI HO2 HMISS HMARK
          generalize F.foldl (refM vs most) ⟨S, T', lf, an⟩ = s2 at *
          go_wp2_with fail
          go_roundg m
          case rel => exact ⟨s2, hMk, hGd.out, Nat.le_trans HSZ.out HGM.out.2.1, HGM.out.2.2⟩
          case measure => have := HGM.out.1; omega
end Go.Proofs.YtajcffchopcamaaGreatDoor

/- The walk of slices.IndexFunc, slices.ContainsFunc with a marking's isMissed, and of lookAnew. -/
namespace Go.Proofs.YtajcffchopcamaaGreatDoor
open Go.RowKit

theorem placeZ_any {α : Type} (p : α → Bool) (ls : List α) : decide (0 ≤ placeZ p ls) = ls.any p := by
  cases h : ls.any p
  · rw [placeZ_none h]; rfl
  · unfold placeZ
    cases e : ls.findIdx? p with
    | none =>
      rw [List.findIdx?_eq_none_iff] at e
      rw [List.any_eq_true] at h
      obtain ⟨x, hx, hp⟩ := h
      rw [e x hx] at hp
      cases hp
    | some i => simp
set_option maxHeartbeats 1000000 in
set_option maxRecDepth 100000 in
theorem indexMissed_any {w0 : World} {M mb most b off c : Nat} {ss : List SlotA} {st : MSt} (F : List Int) (hF : ∀ r ∈ F, 0 ≤ r ∧ r ≤ 31) (hl : F.length ≤ 5) (a : Option Addr) (cF : Nat) (w : World) (hr : ReadsVw w0 (some ⟨b, off, none⟩) ss) (h32 : ss.length = 32) (h : MkAt w0 w M mb (.slice (some ⟨b, off, none⟩) 32 c) most st) (hFR : ∀ u, Below w0.heap.size w0 u → ReadsI u a F) :
    Calls Tryz.prog 115 #[.slice a F.length cF, .func (.func 68) #[.pointer (some ⟨M, 0, none⟩)] #[]] w fun e w' => e = .returned (.int .i64 (placeZ (missM (vsOf ss) st.met) F)) ∧ Below w.heap.size w w' := by
  have HMISS : Hid (∀ (u : World) (k : Nat), k < 32 → Below w.heap.size w u → Calls Tryz.prog 68 #[.pointer (some ⟨M, 0, none⟩), .int .i64 (k : Int)] u fun e w' => e = .returned (.bool (missM (vsOf ss) st.met k)) ∧ Below u.heap.size u w') := fun u k hk hu => isMissed_any k hk u hr h32 (h.below hu)
  have HFV : Hid (∀ u, Below w.heap.size w u → ReadsI u a F) := fun u hu => hFR u (h.bel.trans (hu.mono h.bel.size))
  have HFI : Hid (∀ r ∈ F, 0 ≤ r ∧ r ≤ 31) := hF
  obtain ⟨p, hp⟩ : ∃ p, missM (vsOf ss) st.met = p := ⟨_, rfl⟩
  rw [hp] at HMISS ⊢
  clear hp hFR hF h hr h32
  have HHIT : Hid (∀ k, k < F.length → (F.take k).any p = false → p (F.getD k 0) = true → placeZ p F = k) := fun k h1 h2 h3 => placeZ_hit h1 h2 h3
  have HEND : Hid (∀ k, ¬ k < F.length → (F.take k).any p = false → placeZ p F = -1) := fun k h1 h2 => placeZ_end h1 h2
  have HSTEP : Hid (∀ k, k < F.length → (F.take k).any p = false → p (F.getD k 0) = false → (F.take (k + 1)).any p = false) := fun k h1 h2 h3 => any_step h1 h2 h3
  generalize placeZ p F = R at *
  go_enter Tryz.func115, Tryz.ntmps115
  go_wp2_with fail
  go_loopw [8] (fun i wr => ∃ n : Nat, n ≤ F.length ∧ i = .int .i64 n ∧ Hid ((F.take n).any p = false) ∧ Below w.heap.size w wr) (fun i _ => F.length - (RowKit.intOf i).toNat)
  case atStart => exact ⟨0, Nat.zero_le _, rfl, (show (F.take 0).any p = false by simp), Below.refl _ _⟩
  case round =>
    obtain ⟨n, hn, rfl, hany, hbl⟩ := hrel
    by_cases hlt : n < F.length
    · obtain ⟨bf, offf, rfl, hcf⟩ := HFV.out wr hbl (by intro e; rw [e] at hlt; simp at hlt)
      have f0 := hcf n hlt
      have HH1 : Hid (p (F.getD n 0) = true → R = n) := fun h => HHIT.out n hlt hany.out h
      have HH2 : Hid (p (F.getD n 0) = false → (F.take (n + 1)).any p = false) := fun h => HSTEP.out n hlt hany.out h
      obtain ⟨y, hye, hy32⟩ : ∃ y : Nat, F.getD n 0 = y ∧ y < 32 := by
        have := HFI.out _ (mem_getDM hlt)
        exact ⟨(F.getD n 0).toNat, by omega, by omega⟩
      rw [hye] at f0 HH1 HH2
      clear hcf hye HHIT HSTEP HEND
      have C := HMISS.out wr y hy32 hbl
      generalize p (y : Int) = pb at *
      cases pb with
      | false =>
        have HN : Hid ((F.take (n + 1)).any p = false) := HH2.out rfl
        clear HH1 HH2
        go_wp2_with fail
        refine C.mono ?_
        rintro e w1 ⟨rfl, hb1⟩
        have hB1 : Below w.heap.size w w1 := hbl.trans (hb1.mono hbl.size)
        clear C hb1 f0
        go_wp2_with fail
        go_roundw
        case rel => exact ⟨n + 1, by omega, by go_num, HN, hB1⟩
        case measure => simp [RowKit.intOf]; omega
      | true =>
        have HR : Hid (R = n) := HH1.out rfl
        clear HH1 HH2
        go_wp2_with fail
        refine C.mono ?_
        rintro e w1 ⟨rfl, hb1⟩
        go_wp2
        go_ret
        exact ⟨by rw [HR.out]; rfl, hbl.trans (hb1.mono hbl.size)⟩
    · have HR : Hid (R = -1) := HEND.out n hlt hany.out
      clear HHIT HSTEP HEND
      go_wp2
      go_ret
      exact ⟨by rw [HR.out]; rfl, hbl⟩
set_option maxHeartbeats 1000000 in
set_option maxRecDepth 100000 in
theorem containsMissed_any {w0 : World} {M mb most b off c : Nat} {ss : List SlotA} {st : MSt} (F : List Int) (hF : ∀ r ∈ F, 0 ≤ r ∧ r ≤ 31) (hl : F.length ≤ 5) (a : Option Addr) (cF : Nat) (w : World) (hr : ReadsVw w0 (some ⟨b, off, none⟩) ss) (h32 : ss.length = 32) (h : MkAt w0 w M mb (.slice (some ⟨b, off, none⟩) 32 c) most st) (hFR : ∀ u, Below w0.heap.size w0 u → ReadsI u a F) :
    Calls Tryz.prog 95 #[.slice a F.length cF, .func (.func 68) #[.pointer (some ⟨M, 0, none⟩)] #[]] w fun e w' => e = .returned (.bool (F.any (missM (vsOf ss) st.met))) ∧ Below w.heap.size w w' := by
  have C := indexMissed_any F hF hl a cF w hr h32 h hFR
  have HA : Hid (_ = _) := placeZ_any (missM (vsOf ss) st.met) F
  generalize placeZ (missM (vsOf ss) st.met) F = P at *
  clear hFR hF h hr h32
  go_enter Tryz.func95, Tryz.ntmps95
  go_wp2_with fail
  refine C.mono ?_
  rintro e w1 ⟨rfl, hb1⟩
  go_wp2
  go_ret
  exact ⟨ret_bool HA.out, hb1⟩

theorem lookM_step (vs : List SlotV) (most : Nat) (st : MSt) (n : Nat) : (List.range (n + 1)).foldl (lookM vs most) st = lookM vs most ((List.range n).foldl (lookM vs most) st) n := by
  rw [List.range_succ, List.foldl_append]
  rfl
set_option maxHeartbeats 4000000 in
set_option maxRecDepth 100000 in
theorem lookAnew_any {w0 : World} {M mb most b off c : Nat} {ss : List SlotA} {st : MSt} (hm : most ≤ 40) (g : GoodM most st) (hv : viewB (vsOf ss) = true) (ha : 0 ≤ st.anew ∧ st.anew ≤ 1000) (w : World) (hr : ReadsVw w0 (some ⟨b, off, none⟩) ss) (h32 : ss.length = 32) (h : MkAt w0 w M mb (.slice (some ⟨b, off, none⟩) 32 c) most st) :
    Calls Tryz.prog 71 #[.pointer (some ⟨M, 0, none⟩)] w fun e w' => (∃ v, e = .returned v) ∧ MkAt w0 w' M mb (.slice (some ⟨b, off, none⟩) 32 c) most (anewM (vsOf ss) most st) := by
  have HV : Hid (∀ k : Nat, k < 32 → ∃ hs kd aI nI cI aR cR, (∀ u, Below w0.heap.size w0 u → u.cell? ⟨b, off + k * 4, none⟩ = some (.bool hs) ∧ u.cell? ⟨b, off + k * 4 + 1, none⟩ = some (.int .i64 kd) ∧ u.cell? ⟨b, off + k * 4 + 2, none⟩ = some (.slice aI nI cI) ∧ u.cell? ⟨b, off + k * 4 + 3, none⟩ = some (.slice aR (refsM (vsOf ss) k).length cR)) ∧ ∀ (u : World) (st : MSt), MkAt w0 u M mb (.slice (some ⟨b, off, none⟩) 32 c) most st → Calls Tryz.prog 95 #[.slice aR (refsM (vsOf ss) k).length cR, .func (.func 68) #[.pointer (some ⟨M, 0, none⟩)] #[]] u fun e w' => e = .returned (.bool (lackM (vsOf ss) st.met k)) ∧ Below u.heap.size u w') := fun k hk => by
    refine ⟨(ss.getD k zeroS).v.has, (ss.getD k zeroS).v.o.kind, (ss.getD k zeroS).aI, (ss.getD k zeroS).v.o.ints.length, (ss.getD k zeroS).cI, (ss.getD k zeroS).aR, (ss.getD k zeroS).cR, fun u hu => ?_, fun u st hu => ?_⟩
    · obtain ⟨b', off', e, hc⟩ := (hr.below hu) (by intro e; rw [e] at h32; simp at h32)
      simp only [Option.some.injEq, Addr.mk.injEq, and_true] at e
      obtain ⟨rfl, rfl⟩ := e
      obtain ⟨h1, h2⟩ := hc k (by omega)
      refine ⟨h1 0 _ rfl, h1 1 _ rfl, h1 2 _ rfl, ?_⟩
      rw [refsM, Int.toNat_natCast, vsOf_at]
      exact h1 3 _ rfl
    · refine containsMissed_any (refsM (vsOf ss) k) (viewB_rng hv k) (viewB_refs hv k) _ _ u hr h32 hu (fun u2 hu2 => ?_)
      obtain ⟨b', off', e, hc⟩ := (hr.below hu2) (by intro e; rw [e] at h32; simp at h32)
      rw [refsM, Int.toNat_natCast, vsOf_at]
      exact (hc k (by omega)).2.refs
  have HPUT : Hid (∀ (u : World) (st : MSt) (k : Nat), GoodM most st → MkAt w0 u M mb (.slice (some ⟨b, off, none⟩) 32 c) most st → Calls Tryz.prog 94 #[.pointer (some ⟨M, 0, none⟩), .int .i64 (k : Int)] u fun e w' => (∃ v, e = .returned v) ∧ MkAt w0 w' M mb (.slice (some ⟨b, off, none⟩) 32 c) most (putM most st k)) := fun u st k g h => put_any hm g k u h
  have HGD : Hid (∀ n, n ≤ 32 → GoodM most ((List.range n).foldl (lookM (vsOf ss) most) (clearM st))) := fun n hn => (lookM_fold (List.range n) (clearM st) ⟨g.len, g.room, g.rng⟩ (fun i hi => by have := List.mem_range.1 hi; omega)).2.2
  have HFIN : Hid (anewM (vsOf ss) most st = (List.range 32).foldl (lookM (vsOf ss) most) (clearM st)) := rfl
  obtain ⟨aS, cS, hO⟩ := h
  have c5 := hO.box.cell 5 _ rfl
  have f5 := hO.box.frozen 5
  obtain ⟨W1, hW1, hO1⟩ := hO.cell (st' := ⟨st.met, st.stack, st.left, st.anew + 1⟩) 5 (.int .i64 (st.anew + 1)) rfl rfl rfl
  have d4 := hO1.box.cell 4 _ rfl
  have e4 := hO1.box.frozen 4
  obtain ⟨W2, hW2, hO2⟩ := hO1.cell (st' := clearM st) 4 (.bool false) rfl rfl rfl
  have x0 := hO2.box.cell 0 _ rfl
  have HK : Hid (MkAt w0 W2 M mb (.slice (some ⟨b, off, none⟩) 32 c) most ((List.range 0).foldl (lookM (vsOf ss) most) (clearM st))) := ⟨_, _, hO2⟩
  obtain ⟨a1, a2⟩ := ha
  rw [HFIN.out]
  clear hO hO1 hO2 g hv hr h32 HFIN
  generalize vsOf ss = vs at *
  generalize clearM st = s0 at *
  generalize st.anew = an at *
  go_enter Tryz.func71, Tryz.ntmps71
  go_upto_region 1 with fail
  rw [hW1.out]
  clear hW1 c5 f5
  go_upto_region 2 with fail
  rw [hW2.out]
  clear hW2 d4 e4
  go_wp2_with fail
  clear x0
  go_loopw [19] (fun i wr => ∃ n : Nat, n ≤ 32 ∧ i = .int .i64 n ∧ MkAt w0 wr M mb (.slice (some ⟨b, off, none⟩) 32 c) most ((List.range n).foldl (lookM vs most) s0)) (fun i _ => 32 - (RowKit.intOf i).toNat)
  case atStart => exact ⟨0, by omega, rfl, HK.out⟩
  case round =>
    obtain ⟨n, hn, rfl, hMk⟩ := hrel
    clear HK
    by_cases hlt : n < 32
    · obtain ⟨hs, kd, aI, nI, cI, aR, cR, hcl, hcf⟩ := HV.out n hlt
      have hG := HGD.out n (by omega)
      have HNX : Hid (_ = _) := lookM_step vs most s0 n
      generalize (List.range n).foldl (lookM vs most) s0 = s2 at *
      obtain ⟨v0, v1, v2, v3⟩ := hcl wr hMk.bel
      obtain ⟨V, hV, bz, hbV, hsV⟩ := boxes1 wr [.bool hs, .int .i64 kd, .slice aI nI cI, .slice aR (refsM vs n).length cR] 41
      have hMV := hMk.below hbV
      have HMV : Hid (∀ u, Below V.heap.size V u → MkAt w0 u M mb (.slice (some ⟨b, off, none⟩) 32 c) most s2 ∧ Box u wr.heap.size [.bool hs, .int .i64 kd, .slice aI nI cI, .slice aR (refsM vs n).length cR] 41) := fun u hu => ⟨hMV.below hu, bz.below hu bz.lt⟩
      have HLK : Hid (lookM vs most s2 n = if (metM s2.met n && lackM vs s2.met n) = true then putM most s2 n else s2) := rfl
      have HPU : Hid (_) := fun u => HPUT.out u s2 n hG
      have HCF : Hid (_) := fun u => hcf u s2
      obtain ⟨bS, kS, hO⟩ := hMV
      have y1 := hO.box.cell 1 _ rfl
      have C := setHas_any mb s2.met n (by omega) V hO.set
      have hnI : (n : Int) < 32 := by omega
      clear hcl hcf HV HPUT HGD hG hMk bz hbV hsV hO
      generalize metM s2.met (n : Int) = mt at *
      cases mt with
      | false =>
        have HEQ : Hid (lookM vs most s2 n = s2) := HLK.out
        clear HLK HPU HCF
        go_upto_region 5 with fail
        rw [hV.out]
        clear hV v0 v1 v2 v3
        go_wp2_with fail
        refine C.mono ?_
        rintro e w1 ⟨rfl, hb1⟩
        have HN := (HMV.out w1 hb1).1
        clear C HMV hb1 y1
        go_wp2_with fail
        go_roundw
        case rel => exact ⟨n + 1, by omega, by go_num, by rw [HNX.out, HEQ.out]; exact HN⟩
        case measure => simp [RowKit.intOf]; omega
      | true =>
        go_upto_region 5 with fail
        rw [hV.out]
        clear hV v0 v1 v2 v3
        go_wp2_with fail
        refine C.mono ?_
        rintro e w1 ⟨rfl, hb1⟩
        obtain ⟨hM1, bx1⟩ := HMV.out w1 hb1
        have z3 := bx1.cell 3 _ rfl
        have C2 := HCF.out w1 hM1
        have HM1 : Hid (_) := fun (u : World) (hu : Below w1.heap.size w1 u) => hM1.below hu
        clear C HMV hb1 y1 HCF bx1 hM1
        generalize lackM vs s2.met (n : Int) = lk at *
        cases lk with
        | false =>
          have HEQ : Hid (lookM vs most s2 n = s2) := HLK.out
          clear HLK HPU
          go_wp2_with fail
          refine C2.mono ?_
          rintro e w2 ⟨rfl, hb2⟩
          have HN := HM1.out w2 hb2
          clear C2 HM1 hb2 z3
          go_wp2_with fail
          go_roundw
          case rel => exact ⟨n + 1, by omega, by go_num, by rw [HNX.out, HEQ.out]; exact HN⟩
          case measure => simp [RowKit.intOf]; omega
        | true =>
          have HEQ : Hid (lookM vs most s2 n = putM most s2 n) := HLK.out
          clear HLK
          go_wp2_with fail
          refine C2.mono ?_
          rintro e w2 ⟨rfl, hb2⟩
          have C3 := HPU.out w2 (HM1.out w2 hb2)
          clear C2 HM1 hb2 z3 HPU
          go_wp2_with fail
          refine C3.mono ?_
          rintro e w3 ⟨⟨x3, rfl⟩, hM3⟩
          clear C3
          go_wp2_with fail
          go_roundw
          case rel => exact ⟨n + 1, by omega, by go_num, by rw [HNX.out, HEQ.out]; exact hM3⟩
          case measure => simp [RowKit.intOf]; omega
    · obtain rfl : n = 32 := by omega
      clear HV HPUT HGD
      go_wp2_with fail
      refine bodyPost_end (results_none rfl _ _ _) rfl ?_
      exact ⟨⟨_, rfl⟩, hMk⟩
end Go.Proofs.YtajcffchopcamaaGreatDoor

/- The walks of impl.markingOf and a marking's from. -/
namespace Go.Proofs.YtajcffchopcamaaGreatDoor
open Go.RowKit

set_option maxHeartbeats 1000000 in
set_option maxRecDepth 100000 in
theorem markingOf_any (a : Option Addr) (n c most : Nat) (w : World) :
    Calls Tryz.prog 41 #[.slice a n c, .int .i64 (most : Int)] w fun e w' => ∃ M mb, e = .returned (.pointer (some ⟨M, 0, none⟩)) ∧ MkAt w w' M mb (.slice a n c) most emptyM := by
  have hmm := @run_makeMap Tryz.prog
  obtain ⟨W, hW⟩ : ∃ W, Hid (w.alloc (.map #[] 0) = W) := ⟨_, rfl⟩
  have m0 : KeysAt W w.heap.size [] := by rw [← hW.out]; exact keysAt_made w
  have hbW : Below w.heap.size w W := by rw [← hW.out]; exact (Below.refl _ _).alloc (Nat.le_refl _) _
  have hsW : W.heap.size = w.heap.size + 1 := by rw [← hW.out]; simp
  obtain ⟨V, hV, bV, hbV, hsV⟩ := boxes1 W [.slice a n c, .map (some w.heap.size), .slice none 0 0, .int .i64 (most : Int), .bool false, .int .i64 0] 117
  rw [hsW] at bV
  have HO : Hid (MkO w V (w.heap.size + 1) w.heap.size (.slice a n c) most emptyM none 0) := by
    refine ⟨bV, (setAt_none m0).below hbV, ownI_nil _ _ _ (Nat.le_refl _), by omega, fun k hk => ?_, ⟨by omega, Nat.le_refl _⟩, hbW.trans (hbV.mono hbW.size)⟩
    simp [Value.ownBlock] at hk
  clear m0 hbW bV hbV hsV hsW
  go_enter Tryz.func41, Tryz.ntmps41
  go_wp2_with fail
  rw [hW.out, hV.out]
  go_ret
  exact ⟨_, _, rfl, none, 0, HO.out⟩

theorem loopM_stop (vs : List SlotV) (most n : Nat) {st : MSt} (h : st.left = false) : loopM vs most n st = st := by
  cases n with
  | zero => rfl
  | succ n => rw [loopM, if_neg (by rw [h]; decide)]
theorem loopM_next (vs : List SlotV) (most n : Nat) {st : MSt} (h : st.left = true) : loopM vs most (n + 1) st = loopM vs most n (drainM vs most 72 (anewM vs most st)) := by rw [loopM, if_pos h]
/-- What holds between two looks through the view. -/
def BetwM (vs : List SlotV) (most : Nat) (FIN : MSt) (n : Nat) (st : MSt) : Prop := GoodM most st ∧ st.stack = [] ∧ restM st ≤ n ∧ loopM vs most n st = FIN ∧ 0 ≤ st.anew ∧ st.anew + n ≤ 65
theorem betwM_stop {vs : List SlotV} {most : Nat} {FIN : MSt} {n : Nat} {st : MSt} (h : BetwM vs most FIN n st) (hl : st.left = false) : st = FIN := by
  rw [← h.2.2.2.1, loopM_stop vs most n hl]
theorem betwM_next {vs : List SlotV} (hv : RngM vs) {most : Nat} (h1 : 1 ≤ most) (h40 : most ≤ 40) {FIN : MSt} {n : Nat} {st : MSt} (h : BetwM vs most FIN n st) (hl : st.left = true) : ∃ m, n = m + 1 ∧ BetwM vs most FIN m (drainM vs most 72 (anewM vs most st)) := by
  obtain ⟨g, e, r, f, a, b⟩ := h
  have hless := loopM_less hv h1 h40 g e hl
  obtain ⟨_, ha, hg⟩ := anewM_good (vs := vs) g
  obtain ⟨g2, e2, _⟩ := drainM_good hv 72 _ hg (hg.size h40)
  cases n with
  | zero => omega
  | succ m =>
    refine ⟨m, rfl, g2, e2, by omega, ?_, ?_, ?_⟩
    · rw [← f, loopM_next vs most m hl]
    · rw [drainM_anew, ha]; omega
    · rw [drainM_anew, ha]; omega
theorem betwM_first {vs : List SlotV} (hv : RngM vs) {most : Nat} (h40 : most ≤ 40) {root : Int} (hr : 0 ≤ root ∧ root ≤ 31) : BetwM vs most (runM vs most root) 65 (firstM vs most root) := by
  obtain ⟨g, e⟩ := firstM_good hv h40 hr
  have ha : (firstM vs most root).anew = 0 := by rw [firstM, drainM_anew, refM_anew]; rfl
  exact ⟨g, e, restM_le g, rfl, by rw [ha]; decide, by rw [ha]; decide⟩

set_option maxHeartbeats 4000000 in
set_option maxRecDepth 100000 in
theorem from_any {w0 : World} {M mb most b off c : Nat} {ss : List SlotA} (h1 : 1 ≤ most) (hm : most ≤ 40) (hv : viewB (vsOf ss) = true) (root : Nat) (hro : root < 32) (w : World) (hr : ReadsVw w0 (some ⟨b, off, none⟩) ss) (h32 : ss.length = 32) (h : MkAt w0 w M mb (.slice (some ⟨b, off, none⟩) 32 c) most emptyM) :
    Calls Tryz.prog 42 #[.pointer (some ⟨M, 0, none⟩), .int .i64 (root : Int)] w fun e w' => (∃ v, e = .returned v) ∧ MkAt w0 w' M mb (.slice (some ⟨b, off, none⟩) 32 c) most (runM (vsOf ss) most root) := by
  have HRG : Hid (RngM (vsOf ss)) := viewB_rng hv
  have HMISS : Hid (∀ (u : World) (st : MSt) (k : Nat), k < 32 → MkAt w0 u M mb (.slice (some ⟨b, off, none⟩) 32 c) most st → Calls Tryz.prog 68 #[.pointer (some ⟨M, 0, none⟩), .int .i64 (k : Int)] u fun e w' => e = .returned (.bool (missM (vsOf ss) st.met k)) ∧ Below u.heap.size u w') := fun u st k hk h => isMissed_any k hk u hr h32 h
  have HMARK : Hid (∀ (u : World) (st : MSt) (k : Nat), k < 32 → GoodM most st → MkAt w0 u M mb (.slice (some ⟨b, off, none⟩) 32 c) most st → Calls Tryz.prog 69 #[.pointer (some ⟨M, 0, none⟩), .int .i64 (k : Int)] u fun e w' => (∃ v, e = .returned v) ∧ MkAt w0 w' M mb (.slice (some ⟨b, off, none⟩) 32 c) most (markM most st k)) := fun u st k hk g h => mark_any hm g k hk u h
  have HDRAIN : Hid (∀ (u : World) (st : MSt), GoodM most st → MkAt w0 u M mb (.slice (some ⟨b, off, none⟩) 32 c) most st → Calls Tryz.prog 70 #[.pointer (some ⟨M, 0, none⟩)] u fun e w' => (∃ v, e = .returned v) ∧ MkAt w0 w' M mb (.slice (some ⟨b, off, none⟩) 32 c) most (drainM (vsOf ss) most 72 st)) := fun u st g h => drain_any hm g hv u hr h32 h
  have HLOOK : Hid (∀ (u : World) (st : MSt), GoodM most st → 0 ≤ st.anew → st.anew ≤ 1000 → MkAt w0 u M mb (.slice (some ⟨b, off, none⟩) 32 c) most st → Calls Tryz.prog 71 #[.pointer (some ⟨M, 0, none⟩)] u fun e w' => (∃ v, e = .returned v) ∧ MkAt w0 w' M mb (.slice (some ⟨b, off, none⟩) 32 c) most (anewM (vsOf ss) most st)) := fun u st g a b h => lookAnew_any hm g hv ⟨a, b⟩ u hr h32 h
  have HFIRST : Hid (drainM (vsOf ss) most 72 (refM (vsOf ss) most emptyM root) = firstM (vsOf ss) most root ∧ BetwM (vsOf ss) most (runM (vsOf ss) most root) 65 (firstM (vsOf ss) most root) ∧ GoodM most (refM (vsOf ss) most emptyM root)) := ⟨rfl, betwM_first (viewB_rng hv) hm (by omega), refM_good (emptyM_good most) (by omega)⟩
  generalize vsOf ss = vs at *
  generalize Value.slice (some ⟨b, off, none⟩) 32 c = vw at *
  obtain ⟨FIN, HFIN⟩ : ∃ FIN, Hid (runM vs most root = FIN) := ⟨_, rfl⟩
  rw [HFIN.out] at HFIRST ⊢
  obtain ⟨aS, cS, hO⟩ := h
  have HO : Hid (MkO w0 w M mb vw most emptyM aS cS) := hO
  have c1 := hO.box.cell 1 _ rfl
  have hset := hO.set
  clear hO hv hr h32 HFIN
  go_enter Tryz.func42, Tryz.ntmps42
  go_upto_region 1 with (first | (guard_target = wpList _ _ _ (Oper.mk none (Op.call _) _ _ _ _ :: _) _ _; refine wpList_clear_s rfl _ rfl mb emptyM.met rfl hset ?_; intro w1 hs1 hg1) | fail)
  have HO1 : Hid (MkO w0 w1 M mb vw most emptyM aS cS) := HO.out.marked hs1 hg1
  clear HO hs1 hg1 c1 hset
  have c5 := HO1.out.box.cell 5 _ rfl
  have f5 := HO1.out.box.frozen 5
  obtain ⟨W2, hW2, hO2⟩ := HO1.out.cell (st' := emptyM) 5 (.int .i64 0) rfl rfl rfl
  have HM2 : Hid (∀ u, Below W2.heap.size W2 u → MkAt w0 u M mb vw most emptyM) := fun u hu => ⟨_, _, hO2.below hu⟩
  have C := HMISS.out W2 emptyM root hro ⟨_, _, hO2⟩
  have HRF : Hid (refM vs most emptyM root = if missM vs emptyM.met root = true then markM most emptyM root else emptyM) := rfl
  clear HO1 hO2
  go_upto_region 2 with fail
  rw [hW2.out]
  clear hW2 c5 f5
  have KEY : Hid (∀ u, MkAt w0 u M mb vw most (refM vs most emptyM root) → Calls Tryz.prog 70 #[.pointer (some ⟨M, 0, none⟩)] u fun e w' => (∃ v, e = .returned v) ∧ MkAt w0 w' M mb vw most (firstM vs most root)) := fun u hu => HDRAIN.out u _ HFIRST.out.2.2 hu
  cases hmb : missM vs emptyM.met root with
  | false =>
    rw [hmb] at C
    have HEQ : Hid (refM vs most emptyM root = emptyM) := by rw [Hid, HRF.out, if_neg (by rw [hmb]; decide)]
    clear hmb HRF HMARK
    go_wp2_with fail
    refine C.mono ?_
    rintro e WX ⟨rfl, hb3⟩
    have HX : MkAt w0 WX M mb vw most (refM vs most emptyM root) := by rw [HEQ.out]; exact HM2.out WX hb3
    clear C HM2 hb3 HEQ HMISS
    have C5 := KEY.out WX HX
    clear KEY
    go_wp2_with fail
    refine C5.mono ?_
    rintro e w5 ⟨⟨x5, rfl⟩, hM5⟩
    clear C5
    go_wp2_with fail
    go_loopg [19] 65 (fun n _ wr => ∃ st' : MSt, MkAt w0 wr M mb vw most st' ∧ Hid (BetwM vs most FIN n st'))
    case atStart => exact ⟨_, hM5, HFIRST.out.2.1⟩
    case round =>
      obtain ⟨st', hMr, hB⟩ := hrel
      clear hM5 HFIRST
      obtain ⟨aR, cR, hO⟩ := hMr
      have c4 := hO.box.cell 4 _ rfl
      cases hl : st'.left with
      | false =>
        rw [hl] at c4
        have HE : Hid (st' = FIN) := betwM_stop hB.out hl
        clear hl hB HRG HDRAIN HLOOK
        go_wp2_with fail
        refine bodyPost_end (results_none rfl _ _ _) rfl ?_
        exact ⟨⟨_, rfl⟩, by rw [← HE.out]; exact ⟨_, _, hO⟩⟩
      | true =>
        rw [hl] at c4
        obtain ⟨m, HN⟩ : ∃ m, Hid (gk = m + 1 ∧ BetwM vs most FIN m (drainM vs most 72 (anewM vs most st'))) := betwM_next HRG.out h1 hm hB.out hl
        have C6 := HLOOK.out wr st' hB.out.1 hB.out.2.2.2.2.1 (by have := hB.out.2.2.2.2.2; omega) ⟨_, _, hO⟩
        have HGA : Hid (GoodM most (anewM vs most st')) := (anewM_good hB.out.1).2.2
        clear hl hB HLOOK hO
        go_wp2_with fail
        refine C6.mono ?_
        rintro e w6 ⟨⟨x6, rfl⟩, hM6⟩
        have C7 := HDRAIN.out w6 _ HGA.out hM6
        clear C6 hM6 HDRAIN c4
        go_wp2_with fail
        refine C7.mono ?_
        rintro e w7 ⟨⟨x7, rfl⟩, hM7⟩
        clear C7
        go_wp2_with fail
        go_roundg m
        case rel => exact ⟨_, hM7, HN.out.2⟩
        case measure => have := HN.out.1; omega
  | true =>
    rw [hmb] at C
    have HEQ : Hid (refM vs most emptyM root = markM most emptyM root) := by rw [Hid, HRF.out, if_pos hmb]
    clear hmb HRF
    go_wp2_with fail
    refine C.mono ?_
    rintro e w3 ⟨rfl, hb3⟩
    have C4 := HMARK.out w3 emptyM root hro (emptyM_good most) (HM2.out w3 hb3)
    clear C HM2 hb3 HMISS HMARK
    go_wp2_with fail
    refine C4.mono ?_
    rintro e WX ⟨⟨x4, rfl⟩, hM4⟩
    have HX : MkAt w0 WX M mb vw most (refM vs most emptyM root) := by rw [HEQ.out]; exact hM4
    clear C4 hM4 HEQ
    have C5 := KEY.out WX HX
    clear KEY
    go_wp2_with fail
    refine C5.mono ?_
    rintro e w5 ⟨⟨x5, rfl⟩, hM5⟩
    clear C5
    go_wp2_with fail
    go_loopg [19] 65 (fun n _ wr => ∃ st' : MSt, MkAt w0 wr M mb vw most st' ∧ Hid (BetwM vs most FIN n st'))
    case atStart => exact ⟨_, hM5, HFIRST.out.2.1⟩
    case round =>
      obtain ⟨st', hMr, hB⟩ := hrel
      clear hM5 HFIRST
      obtain ⟨aR, cR, hO⟩ := hMr
      have c4 := hO.box.cell 4 _ rfl
      cases hl : st'.left with
      | false =>
        rw [hl] at c4
        have HE : Hid (st' = FIN) := betwM_stop hB.out hl
        clear hl hB HRG HDRAIN HLOOK
        go_wp2_with fail
        refine bodyPost_end (results_none rfl _ _ _) rfl ?_
        exact ⟨⟨_, rfl⟩, by rw [← HE.out]; exact ⟨_, _, hO⟩⟩
      | true =>
        rw [hl] at c4
        obtain ⟨m, HN⟩ : ∃ m, Hid (gk = m + 1 ∧ BetwM vs most FIN m (drainM vs most 72 (anewM vs most st'))) := betwM_next HRG.out h1 hm hB.out hl
        have C6 := HLOOK.out wr st' hB.out.1 hB.out.2.2.2.2.1 (by have := hB.out.2.2.2.2.2; omega) ⟨_, _, hO⟩
        have HGA : Hid (GoodM most (anewM vs most st')) := (anewM_good hB.out.1).2.2
        clear hl hB HLOOK hO
        go_wp2_with fail
        refine C6.mono ?_
        rintro e w6 ⟨⟨x6, rfl⟩, hM6⟩
        have C7 := HDRAIN.out w6 _ HGA.out hM6
        clear C6 hM6 HDRAIN c4
        go_wp2_with fail
        refine C7.mono ?_
        rintro e w7 ⟨⟨x7, rfl⟩, hM7⟩
        clear C7
        go_wp2_with fail
        go_roundg m
        case rel => exact ⟨_, hM7, HN.out.2⟩
        case measure => have := HN.out.1; omega
end Go.Proofs.YtajcffchopcamaaGreatDoor

/- Rows of marks (bools): what the call owns, and laws.eqBoolS, markBoolS, heldBoolS. -/
namespace Go.Proofs.YtajcffchopcamaaGreatDoor
open Go.RowKit

theorem Tryz.infoBool : (Tryz.prog.info? 4).map (fun i => (i.zero, i.size, i.bytes)) = some (some (.bool false), 1, 1) := by kernel_rfl
def ReadsBl (w : World) (a : Option Addr) (ns : List Bool) : Prop :=
  ns ≠ [] → ∃ b off, a = some ⟨b, off, none⟩ ∧ ∀ i, i < ns.length → w.cell? ⟨b, off + i, none⟩ = some (.bool (ns.getD i false))
/-- The slice at a, of capacity c, owns the numbers ns; its row lies from lo up to hi. -/
def OwnBl (w : World) (lo hi : Nat) (a : Option Addr) (c : Nat) (ns : List Bool) : Prop :=
  w.ownsRow lo 4 1 (.slice a ns.length c) ns.length (ns.map (Value.bool)) ∧ hi ≤ w.heap.size ∧ ∀ k, (Value.slice a ns.length c).ownBlock = some k → k < hi

theorem OwnBl.lt {w : World} {lo hi : Nat} {a : Option Addr} {c : Nat} {ns : List Bool} (h : OwnBl w lo hi a c ns) : ∀ k, (Value.slice a ns.length c).ownBlock = some k → lo ≤ k ∧ k < hi := fun k hk => ⟨(h.1.lt k hk).1, h.2.2 k hk⟩

theorem OwnBl.within {w w' : World} {lo hi l r : Nat} {a : Option Addr} {c : Nat} {ns : List Bool} (h : OwnBl w lo hi a c ns) (hw : Within l r w w') (hd : hi ≤ l ∨ r ≤ lo) : OwnBl w' lo hi a c ns :=
  ⟨ownsRow_block h.1 (fun k hk => hw.block k (by have := h.2.2 k hk; have := h.2.1; omega) (by have := h.lt k hk; omega)), Nat.le_trans h.2.1 hw.size, h.2.2⟩
theorem OwnBl.below {w w' : World} {lo hi : Nat} {a : Option Addr} {c : Nat} {ns : List Bool} (h : OwnBl w lo hi a c ns) (hb : Below w.heap.size w w') : OwnBl w' lo hi a c ns :=
  h.within (Within.of_below (lo := w.heap.size) (hi := w.heap.size) hb) (.inl h.2.1)
theorem OwnBl.widen {w : World} {lo hi lo' hi' : Nat} {a : Option Addr} {c : Nat} {ns : List Bool} (h : OwnBl w lo hi a c ns) (h1 : lo' ≤ lo) (h2 : hi ≤ hi') (h3 : hi' ≤ w.heap.size) : OwnBl w lo' hi' a c ns :=
  ⟨ownsRow_base h.1 (fun k hk => by have := h.lt k hk; omega), h3, fun k hk => by have := h.lt k hk; omega⟩

theorem OwnBl.reads {w : World} {lo hi : Nat} {a : Option Addr} {c : Nat} {ns : List Bool} (h : OwnBl w lo hi a c ns) : ReadsBl w a ns := by
  intro hne
  rcases h.1.2 with ⟨_, h0⟩ | ⟨g, cap', cur, hv, hb, hg, hr⟩
  · exact absurd (List.length_eq_zero_iff.1 h0) hne
  · simp only [Value.slice.injEq] at hv
    obtain ⟨rfl, _, rfl⟩ := hv
    refine ⟨g, 0, rfl, fun i hi => ?_⟩
    have := h.1.cellAt i (by omega)
    rw [Nat.zero_add, this]
    simp [List.getD, hi]

theorem OwnBl.nocap {w : World} {lo hi : Nat} {a : Option Addr} {c : Nat} {ns : List Bool} (h : OwnBl w lo hi a c ns) : a = none → c = 0 := by
  intro ha
  rcases h.1.2 with ⟨hv, _⟩ | ⟨g, cap, cur, hv, _⟩
  · simp only [Value.slice.injEq] at hv; exact hv.2.2
  · simp [ha] at hv
theorem OwnBl.len_cap {w : World} {lo hi : Nat} {a : Option Addr} {c : Nat} {ns : List Bool} (h : OwnBl w lo hi a c ns) : ns.length ≤ c := by
  rcases h.1.2 with ⟨hv, h0⟩ | ⟨g, cap, cur, hv, _, _, hn, _⟩
  · omega
  · simp only [Value.slice.injEq] at hv; omega

theorem ReadsBl.cases {w : World} {a : Option Addr} {ns : List Bool} (h : ReadsBl w a ns) :
    ns = [] ∨ ∃ b off, a = some ⟨b, off, none⟩ ∧ 0 < ns.length ∧ (∀ i, i < ns.length → w.cell? ⟨b, off + i, none⟩ = some (.bool (ns.getD i false))) := by
  by_cases e : ns = []
  · exact .inl e
  · obtain ⟨b, off, ha, hc⟩ := h e
    exact .inr ⟨b, off, ha, List.length_pos_iff.2 e, hc⟩

theorem ReadsBl.below {w w' : World} {a : Option Addr} {ns : List Bool} (h : ReadsBl w a ns) (hb : Below w.heap.size w w') : ReadsBl w' a ns := by
  intro hne
  obtain ⟨b, off, ha, hc⟩ := h hne
  refine ⟨b, off, ha, fun i hi => ?_⟩
  rw [hb.cell (p := ⟨b, off + i, none⟩) (block_lt (hc i hi))]
  exact hc i hi
theorem ReadsBl.nil (w : World) (a : Option Addr) : ReadsBl w a [] := fun h => absurd rfl h
theorem OwnBl.touch {w w' : World} {lo hi : Nat} {a : Option Addr} {c : Nat} {ns : List Bool} {bl : List Nat} (h : OwnBl w lo hi a c ns) (ht : Touch bl w w') (hd : ∀ k, (Value.slice a ns.length c).ownBlock = some k → k ∉ bl) : OwnBl w' lo hi a c ns :=
  ⟨ownsRow_block h.1 (fun k hk => ht.block k (h.1.lt k hk).2 (hd k hk)), Nat.le_trans h.2.1 ht.size, h.2.2⟩
theorem OwnBl.stored {w : World} {lo hi g c : Nat} {ns : List Bool} (h : OwnBl w lo hi (some ⟨g, 0, none⟩) c ns) (i : Nat) (x : Bool) : ∃ W, Hid (w.setCell ⟨g, i, none⟩ (.bool x) = W) ∧ OwnBl W lo hi (some ⟨g, 0, none⟩) c (ns.set i x) ∧ w.grownBy W (some g) ∧ W.heap.size = w.heap.size := by
  have := h.1.stored i (.bool x)
  refine ⟨_, rfl, ⟨?_, by simp; exact h.2.1, fun k hk => h.2.2 k (by simpa [Value.ownBlock] using hk)⟩, this.2, by simp⟩
  rw [List.length_set, List.map_set]
  exact this.1
end Go.Proofs.YtajcffchopcamaaGreatDoor
