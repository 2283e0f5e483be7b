/- Several texts in one, in their order. -/
import Derived.Test.YtekljhabjkmhpaaDoorPFnLockedx11
import Derived.Deep.QuietTactic
import Derived.Deep.Cut
import Derived.Deep.RegionHeld
/- The walks of spec.l9Has, l9Would, l9Among, l9For. -/
namespace Go.Proofs.YtekljhabjkmhpaaDoor
open Go.RowKit

theorem hasZ_hit {G : List GrantV} {tx res : Int} {k : Nat} (h : k < G.length) (h0 : (G.take k).any (atB tx res) = false) (h1 : atB tx res (G.getD k zeroG) = true) : hasZ G tx res = (G.getD k zeroG).mode := by
  have e := placeZ_hit h h0 h1
  unfold hasZ
  rw [e, if_pos (by omega), Int.toNat_natCast]
theorem hasZ_none {G : List GrantV} {tx res : Int} {k : Nat} (h : ¬ k < G.length) (h0 : (G.take k).any (atB tx res) = false) : hasZ G tx res = 0 := by
  have e := placeZ_end h h0
  unfold hasZ
  rw [e, if_neg (by omega)]

set_option maxHeartbeats 1000000 in
set_option maxRecDepth 100000 in
theorem l9Has_any (G : List GrantV) (aG : Option Addr) (cG : Nat) (vW : Value) (tx res : Int) (w : World) (hG : ReadsG w aG G) (hl : G.length ≤ 1099511627776) :
    Calls Tryd.prog 62 #[.agg #[.slice aG G.length cG, vW], .int .i64 tx, .int .i64 res] w fun e w' => e = .returned (.int .i64 (hasZ G tx res)) ∧ Below w.heap.size w w' := by
  obtain ⟨W, hW, b0, hbW, hsW⟩ := boxes1 w [.slice aG G.length cG, vW] 30
  have hb0 := b0.lt
  have hGW := hG.below hbW
  have HB : Hid (∀ w', Below W.heap.size W w' → Below w.heap.size w w') := fun w' h => hbW.trans (h.mono hbW.size)
  have c0 := b0.cell 0 _ rfl
  clear hG hsW hbW
  have HCG : Hid (∀ k, k < G.length → ∃ b off, aG = some ⟨b, off, none⟩ ∧ W.cell? ⟨b, off + k * 3, none⟩ = some (.int .i64 (G.getD k zeroG).tx) ∧ W.cell? ⟨b, off + k * 3 + 1, none⟩ = some (.int .i64 (G.getD k zeroG).res) ∧ W.cell? ⟨b, off + k * 3 + 2, none⟩ = some (.int .i64 (G.getD k zeroG).mode)) := fun k hk => by
    obtain ⟨b, off, ha, hc⟩ := hGW (by intro e; rw [e] at hk; simp at hk)
    exact ⟨b, off, ha, hc k hk⟩
  clear hGW
  go_enter Tryd.func62, Tryd.ntmps62
  go_wp2
  rw [hW.out]
  go_loop [7] (fun i => ∃ k : Nat, k ≤ G.length ∧ i = .int .i64 k ∧ Hid ((G.take k).any (atB tx res) = false)) (fun i => G.length - (intOf i).toNat)
  case atStart => exact ⟨0, Nat.zero_le _, rfl, rfl⟩
  case round =>
    obtain ⟨k, hk, rfl, hany⟩ := hrel
    have HX := HB.out W (Below.refl _ _)
    by_cases hlt : k < G.length
    · obtain ⟨b, off, rfl, d0, d1, d2⟩ := HCG.out k hlt
      have HN : Hid (atB tx res (G.getD k zeroG) = false → (G.take (k + 1)).any (atB tx res) = false) := any_step hlt hany
      have HH : Hid (atB tx res (G.getD k zeroG) = true → hasZ G tx res = (G.getD k zeroG).mode) := hasZ_hit hlt hany
      clear HCG hany
      generalize G.getD k zeroG = z at *
      by_cases h1 : z.tx = tx
      · by_cases h2 : z.res = res
        · have HR : Hid _ := HH.out (by simp [atB, h1, h2])
          go_wp2
          go_ret
          exact ⟨ret_int HR.out.symm, HX⟩
        · have HR : Hid _ := HN.out (by simp [atB, h2])
          go_wp2
          go_round
          case rel => exact ⟨k + 1, by omega, by go_num, HR.out⟩
          case measure => simp [intOf]; omega
      · have HR : Hid _ := HN.out (by simp [atB, h1])
        go_wp2
        go_round
        case rel => exact ⟨k + 1, by omega, by go_num, HR.out⟩
        case measure => simp [intOf]; omega
    · have HR : Hid _ := hasZ_none hlt hany
      go_wp2
      go_ret
      exact ⟨ret_int HR.out.symm, HX⟩

set_option maxHeartbeats 1000000 in
set_option maxRecDepth 100000 in
theorem l9Would_any (G : List GrantV) (aG : Option Addr) (cG : Nat) (vW : Value) (g : GrantV) (w : World) (hG : ReadsG w aG G) (hl : G.length ≤ 1099511627776) :
    Calls Tryd.prog 63 #[.agg #[.slice aG G.length cG, vW], .agg #[.int .i64 g.tx, .int .i64 g.res, .int .i64 g.mode]] w fun e w' => e = .returned (.int .i64 (wouldS G g)) ∧ Below w.heap.size w w' := by
  obtain ⟨W, hW, b0, b1, hbW, hsW⟩ := boxes2 w [.slice aG G.length cG, vW] [.int .i64 g.tx, .int .i64 g.res, .int .i64 g.mode] 30 37
  have C := l9Has_any G aG cG vW g.tx g.res W (hG.below hbW) hl
  have HS : Hid (wouldS G g = if hasZ G g.tx g.res = 0 then g.mode else bothZ (hasZ G g.tx g.res) g.mode) := rfl
  generalize hasZ G g.tx g.res = hs at *
  generalize wouldS G g = R at *
  go_enter Tryd.func63, Tryd.ntmps63
  go_wp2_with fail
  rw [hW.out]
  refine C.mono ?_
  rintro e w1 ⟨rfl, hb1⟩
  have x2 := (b1.below hb1 b1.lt).cell 2 _ rfl
  have hB : Below w.heap.size w w1 := hbW.trans (hb1.mono hbW.size)
  by_cases h : hs = 0
  · have HR : Hid (R = g.mode) := by rw [Hid, HS.out, if_pos h]
    subst h
    go_wp2
    go_ret
    exact ⟨ret_int HR.out.symm, hB⟩
  · have HR : Hid (R = bothZ hs g.mode) := by rw [Hid, HS.out, if_neg h]
    have C2 := specBoth_any hs g.mode w1
    go_wp2_with fail
    refine C2.mono ?_
    rintro e w2 ⟨rfl, rfl⟩
    go_wp2
    go_ret
    exact ⟨ret_int HR.out.symm, hB⟩

/-- Numbers appended in a loop: the world behind it. -/
theorem below_append {lo : Nat} {W w w' : World} {o : Obj} {a : Option Addr} {c n : Nat} (hb : Below lo W w) (hg : (w.alloc o).grownBy w' (Value.slice a n c).ownBlock) (hlo : ∀ k, (Value.slice a n c).ownBlock = some k → lo ≤ k) (hl : lo ≤ w.heap.size) : Below lo W w' := by
  have hbA : Below lo W (w.alloc o) := hb.trans ((Below.refl _ _).alloc hl _)
  exact hbA.grown hg (by simp; omega) hlo

end Go.Proofs.YtekljhabjkmhpaaDoor

/- A region that draws its order and whose last operations store: what is loaded ahead of them is taken first, though they write it. -/
namespace Go.Proofs.YtekljhabjkmhpaaDoor

/-- Whatever order is picked from here on; S holds behind every operation that is none of the late ones. -/
def wpAnyL (P : Program) (md : Region.Mode) (ops : Array Oper) (Q : Exit → Act → World → Prop) (S : World → Prop) (ks : Nat → Bool) : Nat → Array Bool → Act → World → Prop
  | 0, listed, a, w => Region.ready md ops listed = [] ∧ Q .normal a w
  | fuel + 1, listed, a, w =>
    (Region.ready md ops listed = [] → Q .normal a w) ∧
    ∀ i ∈ Region.ready md ops listed, wpOp P ops Q i (fun a' w' => (ks i = false → S w') ∧ wpAnyL P md ops Q S ks fuel (listed.setIfInBounds i true) a' w') a w
theorem wpAny_of_late {P : Program} {ops : Array Oper} {Q : Exit → Act → World → Prop} {md : Region.Mode} {S : World → Prop} {ks : Nat → Bool} : ∀ (fuel : Nat) (listed : Array Bool) (a : Act) (w : World), wpAnyL P md ops Q S ks fuel listed a w → wpAny P md ops Q fuel listed a w
  | 0, _, _, _, h => h
  | fuel + 1, _, _, _, h => ⟨h.1, fun i hi => wpOp_mono (fun a' w' h' => wpAny_of_late fuel _ a' w' h'.2) (h.2 i hi)⟩
/-- All late ones wait for i. -/
def lateAll (md : Region.Mode) (ops : Array Oper) (ks : Nat → Bool) (i : Nat) : Bool :=
  (List.range ops.size).all fun j => !ks j || match ops[j]? with
    | some o => o.after.any (fun e => Region.binds md e && e.on == i)
    | none => true
theorem lateAll_spec {md : Region.Mode} {ops : Array Oper} {ks : Nat → Bool} {i : Nat} (h : lateAll md ops ks i = true) (j : Nat) (oj : Oper) (hj : ops[j]? = some oj) (hk : ks j = true) : ∃ e ∈ oj.after, Region.binds md e = true ∧ e.on = i := by
  unfold lateAll at h
  rw [List.all_eq_true] at h
  have hl : j < ops.size := by
    rcases Nat.lt_or_ge j ops.size with h' | h'
    · exact h'
    · rw [Array.getElem?_eq_none h'] at hj; cases hj
  have := h j (List.mem_range.2 hl)
  rw [hk, hj] at this
  simp only [Bool.not_true, Bool.false_or, Array.any_eq_true'] at this
  obtain ⟨e, he, hb⟩ := this
  rw [Bool.and_eq_true, beq_iff_eq] at hb
  exact ⟨e, he, hb.1, hb.2⟩
theorem wpAnyL_first {P : Program} {ops : Array Oper} {Q : Exit → Act → World → Prop} {md : Region.Mode} {S : World → Prop} {ks : Nat → Bool} {i : Nat} {oi : Oper} {v : Value} (hi : ops[i]? = some oi) (hsel : ∀ (j : Nat) (o : Oper) cs b, ops[j]? = some o → o.op ≠ .select cs b)
    (hQ : ∀ c a w, Q (.panic c) (a.put oi.dst v) w → Q (.panic c) a w) (hlate : ∀ j oj, ops[j]? = some oj → ks j = true → ∃ e ∈ oj.after, Region.binds md e = true ∧ e.on = i) :
    ∀ (fuel : Nat) (listed : Array Bool) (a : Act) (w : World),
      (∀ j oj, ops[j]? = some oj → j ≠ i → listed.getD j true = false → (∀ e ∈ oj.after, Region.binds md e = true → e.on ≠ i) → oi.apart ops oj = true) →
      i ∈ Region.ready md ops listed → YieldsIf P ops S oi v a → S w →
      wpAnyL P md ops Q S ks fuel (listed.setIfInBounds i true) (a.put oi.dst v) w → wpAnyL P md ops Q S ks (fuel + 1) listed a w := by
  intro fuel
  induction fuel with
  | zero =>
    intro listed a w _ hr hy hS H
    refine ⟨fun h => (by rw [h] at hr; cases hr), fun j hj => ?_⟩
    by_cases hji : j = i
    · subst hji; exact hy.wpOp hi hS ⟨fun _ => hS, H⟩
    · have := ready_mono hj hji
      rw [H.1] at this
      cases this
  | succ fuel ih =>
    intro listed a w hfree hr hy hS H
    refine ⟨fun h => (by rw [h] at hr; cases hr), fun j hj => ?_⟩
    by_cases hji : j = i
    · subst hji; exact hy.wpOp hi hS ⟨fun _ => hS, H⟩
    · have h1 := H.2 j (ready_mono hj hji)
      obtain ⟨hjun, oj, hoj, hall⟩ := mem_ready.1 hj
      have hnot : ∀ e ∈ oj.after, Region.binds md e = true → e.on ≠ i := fun e he hb heq => by
        have h1 := hall e he hb
        have h0 := (mem_ready.1 hr).1
        rw [heq] at h1
        rcases Nat.lt_or_ge i listed.size with h' | h'
        · simp [h'] at h0 h1; rw [h0] at h1; cases h1
        · simp [Array.getElem?_eq_none h'] at h1
      have hkj : ks j = false := by
        cases hk : ks j with
        | false => rfl
        | true =>
          obtain ⟨e, he, hb, ho⟩ := hlate j oj hoj hk
          exact absurd ho (hnot e he hb)
      have h2 := wpOp_putIf hoj (hfree j oj hoj hji hjun hnot) (fun cs b => hsel i oi cs b hi) (fun cs b => hsel j oj cs b hoj) hQ hy h1
      have hfree' : ∀ k ok, ops[k]? = some ok → k ≠ i → (listed.setIfInBounds j true).getD k true = false →
          (∀ e ∈ ok.after, Region.binds md e = true → e.on ≠ i) → oi.apart ops ok = true := fun k ok hk hki hun hno => by
        refine hfree k ok hk hki ?_ hno
        by_cases hjk : j = k
        · subst hjk; exact hjun
        · rw [getD_set_ne true hjk] at hun; exact hun
      refine wpOp_mono (fun a' w' h3 => ⟨fun _ => h3.2.1 hkj, ih (listed.setIfInBounds j true) a' w' hfree' (ready_mono hr (Ne.symm hji)) h3.1 (h3.2.1 hkj) ?_⟩) h2
      rw [Array.setIfInBounds_comm _ _ hji]
      exact h3.2.2
/-- Number i is taken first: it yields v in every world that meets S, and the late ones wait for it. -/
theorem wpAnyL_take {P : Program} {ops : Array Oper} {Q : Exit → Act → World → Prop} {md : Region.Mode} {S : World → Prop} {ks : Nat → Bool} {i : Nat} {oi : Oper} {v : Value} {fuel : Nat} {listed : Array Bool} {a : Act} {w : World} (hi : ops[i]? = some oi)
    (hs : (Region.noSelect ops && (Region.free md ops listed i && ((Region.ready md ops listed).contains i && lateAll md ops ks i))) = true)
    (hQ : ∀ c a w, Q (.panic c) (a.put oi.dst v) w → Q (.panic c) a w) (hy : YieldsIf P ops S oi v a) (hS : S w)
    (h : wpAnyL P md ops Q S ks fuel (listed.setIfInBounds i true) (a.put oi.dst v) w) : wpAnyL P md ops Q S ks (fuel + 1) listed a w := by
  rw [Bool.and_eq_true, Bool.and_eq_true, Bool.and_eq_true] at hs
  exact wpAnyL_first hi (Region.noSelect_spec hs.1) hQ (lateAll_spec hs.2.2.2) fuel listed a w (Region.free_spec hi hs.2.1) (by simpa using hs.2.2.1) hy hS h
def AllReadyL (P : Program) (md : Region.Mode) (ops : Array Oper) (Q : Exit → Act → World → Prop) (S : World → Prop) (ks : Nat → Bool) (fuel : Nat) (listed : Array Bool) (a : Act) (w : World) (rs : List Nat) : Prop :=
  ∀ i ∈ rs, wpOp P ops Q i (fun a' w' => (ks i = false → S w') ∧ wpAnyL P md ops Q S ks fuel (listed.setIfInBounds i true) a' w') a w
theorem AllReadyL.nil {P : Program} {ops : Array Oper} {Q : Exit → Act → World → Prop} {md : Region.Mode} {S : World → Prop} {ks : Nat → Bool} {fuel : Nat} {listed : Array Bool} {a : Act} {w : World} : AllReadyL P md ops Q S ks fuel listed a w [] := fun _ h => by cases h
theorem AllReadyL.cons {P : Program} {ops : Array Oper} {Q : Exit → Act → World → Prop} {md : Region.Mode} {S : World → Prop} {ks : Nat → Bool} {fuel : Nat} {listed : Array Bool} {a : Act} {w : World} {i : Nat} {o : Oper} {rs : List Nat} (ho : ops[i]? = some o)
    (h : ∀ K' : Act → World → Prop, Shut (∀ a w, (ks i = false → S w) → ((ks i = false → S w) → wpAnyL P md ops Q S ks fuel (listed.setIfInBounds i true) a w) → K' a w) → if Region.wanted o (yielded ops a.tmps) = true then Oper.wp P o a w K' Q else K' (a.put o.dst undef) w)
    (hs : AllReadyL P md ops Q S ks fuel listed a w rs) : AllReadyL P md ops Q S ks fuel listed a w (i :: rs) := fun j hj => by
  rcases List.mem_cons.1 hj with rfl | hj
  · exact wpOp_step ho (fun K' hK => h K' (fun a w hS hW => hK a w ⟨hS, hW hS⟩))
  · exact hs j hj
theorem wpAnyL_ready {P : Program} {ops : Array Oper} {Q : Exit → Act → World → Prop} {md : Region.Mode} {S : World → Prop} {ks : Nat → Bool} {rs : List Nat} {fuel : Nat} {listed : Array Bool} {a : Act} {w : World} (hr : Region.ready md ops listed = rs) (hne : rs ≠ [])
    (h : AllReadyL P md ops Q S ks fuel listed a w rs) : wpAnyL P md ops Q S ks (fuel + 1) listed a w := ⟨fun h0 => absurd (hr ▸ h0) hne, hr ▸ h⟩
/-- One alone may come up next, and it is none of the late ones: behind it S is shown. -/
theorem wpAnyL_next {P : Program} {ops : Array Oper} {Q : Exit → Act → World → Prop} {md : Region.Mode} {S : World → Prop} {ks : Nat → Bool} (i : Nat) {o : Oper} {fuel : Nat} {listed : Array Bool} {a : Act} {w : World} (hr : Region.ready md ops listed = [i]) (ho : ops[i]? = some o)
    (h : ∀ K' : Act → World → Prop, Shut (∀ a w, S w → (S w → wpAnyL P md ops Q S ks fuel (listed.setIfInBounds i true) a w) → K' a w) → if Region.wanted o (yielded ops a.tmps) = true then Oper.wp P o a w K' Q else K' (a.put o.dst undef) w) : wpAnyL P md ops Q S ks (fuel + 1) listed a w :=
  wpAnyL_ready hr (by simp) (AllReadyL.cons ho (fun K' hK => h K' (fun a w hS hW => hK.out a w (fun _ => hS) (fun _ => hW hS))) AllReadyL.nil)
/-- One alone may come up next, and it is a late one. -/
theorem wpAnyL_last {P : Program} {ops : Array Oper} {Q : Exit → Act → World → Prop} {md : Region.Mode} {S : World → Prop} {ks : Nat → Bool} (i : Nat) {o : Oper} {fuel : Nat} {listed : Array Bool} {a : Act} {w : World} (hr : Region.ready md ops listed = [i]) (ho : ops[i]? = some o) (hk : ks i = true)
    (h : ∀ K' : Act → World → Prop, Shut (∀ a w, wpAnyL P md ops Q S ks fuel (listed.setIfInBounds i true) a w → K' a w) → if Region.wanted o (yielded ops a.tmps) = true then Oper.wp P o a w K' Q else K' (a.put o.dst undef) w) : wpAnyL P md ops Q S ks (fuel + 1) listed a w :=
  wpAnyL_ready hr (by simp) (AllReadyL.cons ho (fun K' hK => h K' (fun a w hW => hK.out a w (fun h => by rw [hk] at h; cases h) (fun _ => hW))) AllReadyL.nil)
theorem wpAnyL_done {P : Program} {ops : Array Oper} {Q : Exit → Act → World → Prop} {md : Region.Mode} {S : World → Prop} {ks : Nat → Bool} {listed : Array Bool} {a : Act} {w : World} (hr : Region.ready md ops listed = []) (h : Q .normal a w) :
    ∀ fuel, wpAnyL P md ops Q S ks fuel listed a w
  | 0 => ⟨hr, h⟩
  | _ + 1 => ⟨fun _ => h, by rw [hr]; simp⟩
theorem wp_region_late {P : Program} {ops : Array Oper} {Q : Exit → Act → World → Prop} {S : World → Prop} (ks : Nat → Bool) {id : Nat} {a : Act} {w : World} (hm : P.follows .mixedOrders = true) (hS : S w.drew)
    (h : S w.drew → wpAnyL P .any ops Q S ks ops.size (Array.replicate ops.size false) a w.drew) : (Code.region id ops true).wp P Q a w :=
  wp_region_any hm (wpAny_of_late _ _ _ _ (h hS))
end Go.Proofs.YtekljhabjkmhpaaDoor
