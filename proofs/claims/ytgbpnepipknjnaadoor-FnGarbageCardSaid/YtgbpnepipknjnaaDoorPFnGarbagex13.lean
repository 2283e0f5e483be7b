/- Several texts in one, in their order. -/
import Derived.Test.YtgbpnepipknjnaaDoorPFnGarbagex12
import Derived.Test.YtgbpnepipknjnaaDoorPFnGarbagex8
import Derived.Deep.RegionLaw
import Derived.Deep.DrawnRows
import Derived.Deep.RegionHeld
import Derived.Test.YtgbpnepipknjnaaDoorPFnGarbagex9
import Derived.Deep.Cut
import Derived.Test.YtgbpnepipknjnaaDoorPFnGarbagex1
import Derived.Test.YtgbpnepipknjnaaDoorProg
import Derived.Deep.QuietTactic
import Derived.BigQuiet
/- The walks of spec.l11Draw, DrawHeap: a view that is right. -/
namespace Go.Proofs.YtgbpnepipknjnaaDoor
open Go.RowKit
attribute [local go_sem ↓] Go.wp_at_zero Go.wp_at_succ

/-- An object in its box whose Refs are being drawn; what its Ints are stands aside. -/
structure ObjR (w : World) (lo Bo : Nat) (kd : Int) (vI : Value) (aR : Option Addr) (cR : Nat) (rs : List Int) : Prop where
  box : Box w Bo [.int .i64 kd, vI, .slice aR rs.length cR] 35
  own : OwnI w lo w.heap.size aR cR rs
  lt : Bo < lo
theorem ObjR.kept {w w' : World} {lo Bo B : Nat} {kd : Int} {vI : Value} {aR : Option Addr} {cR : Nat} {rs : List Int} (h : ObjR w lo Bo kd vI aR cR rs) (hg : w.grownBy w' (some B)) (hB : B < Bo) : ObjR w' lo Bo kd vI aR cR rs := by
  have hlt := h.lt
  have h2 := h.own.kept hg (fun k hk e => by have := (h.own.lt k hk).1; cases e; omega)
  exact ⟨h.box.block (hg.block Bo h.box.lt (fun e => by cases e; omega)), h2.widen (Nat.le_refl _) h2.2.1 (Nat.le_refl _), h.lt⟩
theorem ObjR.alloc {w : World} {lo Bo : Nat} {kd : Int} {vI : Value} {aR : Option Addr} {cR : Nat} {rs : List Int} (h : ObjR w lo Bo kd vI aR cR rs) (ob : Obj) : ObjR (w.alloc ob) lo Bo kd vI aR cR rs :=
  ⟨h.box.alloc ob, (h.own.below ((Below.refl _ _).alloc (Nat.le_refl _) ob)).widen (Nat.le_refl _) (by simp) (Nat.le_refl _), h.lt⟩
theorem ObjR.three {w : World} {lo Bo : Nat} {kd : Int} {vI : Value} {aR : Option Addr} {cR : Nat} {rs : List Int} (h : ObjR w lo Bo kd vI aR cR rs) : w.cell? ⟨Bo, 2, none⟩ = some (.slice aR rs.length cR) ∧ w.frozen? ⟨Bo, 2, none⟩ = false := ⟨h.box.cell 2 _ rfl, h.box.frozen 2⟩
theorem ObjR.push {w0 w w' : World} {lo Bo B : Nat} {kd : Int} {vI : Value} {aR : Option Addr} {cR : Nat} {rs : List Int} {zs : List Int} (h : ObjR w lo Bo kd vI aR cR rs) (hc : CurAt w B zs) (hB : B < Bo) (hg0 : w0.grownBy w (some B)) (h0 : w0.heap.size ≤ Bo)
    {a' : Option Addr} {c' : Nat} {ys : List Int} (ho : OwnI w' lo w'.heap.size a' c' ys) (hg : w.grownBy w' (Value.slice aR rs.length cR).ownBlock) :
    (w'.cell? ⟨Bo, 2, none⟩ = some (.slice aR rs.length cR) ∧ w'.frozen? ⟨Bo, 2, none⟩ = false) ∧
    ObjR (w'.setCell ⟨Bo, 2, none⟩ (.slice a' ys.length c')) lo Bo kd vI a' c' ys ∧ CurAt (w'.setCell ⟨Bo, 2, none⟩ (.slice a' ys.length c')) B zs ∧ w0.grownBy (w'.setCell ⟨Bo, 2, none⟩ (.slice a' ys.length c')) (some B) ∧ (∀ b, b < lo → b ≠ Bo → b < w.heap.size → (w'.setCell ⟨Bo, 2, none⟩ (.slice a' ys.length c')).heap[b]? = w.heap[b]?) := by
  have hlt := h.lt
  have hb' : Box w' Bo _ _ := h.box.block (hg.block Bo h.box.lt (fun e => by have := (h.own.lt Bo e.symm).1; omega))
  have hbs := hb'.set 2 (.slice a' ys.length c')
  simp only [List.set] at hbs
  have hgs := grown_set w' Bo 2 (.slice a' ys.length c')
  have hR2 := ho.kept hgs (fun k hk e => by have := (ho.lt k hk).1; cases e; omega)
  refine ⟨⟨hb'.cell 2 _ rfl, hb'.frozen 2⟩, ⟨hbs, hR2.widen (Nat.le_refl _) hR2.2.1 (Nat.le_refl _), hlt⟩, ?_, ?_, ?_⟩
  · exact (hc.kept hg (fun k e => by have := (h.own.lt k e).1; omega)).kept hgs (fun k e => by cases e; omega)
  · exact grownBy_new (grownBy_new hg0 hg (fun k e => by have := (h.own.lt k e).1; omega)) hgs (fun k e => by cases e; omega)
  · intro b hb hn hbl
    rw [hgs.block b (by have := hg.size; omega) (fun e => hn (Option.some.inj e))]
    exact hg.block b hbl (fun e => by have := (h.own.lt b e.symm).1; omega)
/-- Slots that are right, the first of them empty. -/
def HeapOk (ts : List SlotA) : Prop := (ts.getD 0 zeroS).v.has = false ∧ ∀ t ∈ ts, slotB t.v = true
theorem getD_rng {l : List Int} (h : ∀ z ∈ l, 0 ≤ z ∧ z ≤ 31) (j : Nat) : 0 ≤ l.getD j 0 ∧ l.getD j 0 ≤ 31 := by
  by_cases hj : j < l.length
  · exact h _ (by simp [List.getD, hj])
  · simp [List.getD, List.getElem?_eq_none (by omega : l.length ≤ j)]
theorem slotB_drawn (kd y : Int) (rs : List Int) (aI : Option Addr) (cI : Nat) (aR : Option Addr) (cR : Nat) (h1 : 1 ≤ kd ∧ kd ≤ 3) (h2 : 0 ≤ y ∧ y ≤ 8) (h3 : rs.length ≤ 3) (h4 : ∀ z ∈ rs, 0 ≤ z ∧ z ≤ 31) : slotB (⟨⟨true, ⟨kd, [y], rs⟩⟩, aI, cI, aR, cR⟩ : SlotA).v = true := by
  simp only [slotB, okB, if_true]
  simp only [Bool.and_eq_true, decide_eq_true_eq, List.all_eq_true]
  refine ⟨by simp [inB]; omega, by simp, by omega, fun z hz => ?_, fun z hz => ?_⟩
  · rw [List.mem_singleton.1 hz]; simp [inB]; omega
  · have := h4 z hz; simp [inB]; omega
end Go.Proofs.YtgbpnepipknjnaaDoor

/- A region that draws its order and whose last operations store: what is loaded ahead of them is taken first, though they write it. -/
namespace Go.Proofs.YtgbpnepipknjnaaDoor

/-- Whatever order is picked from here on; S holds behind every operation that is none of the late ones. -/
def wpAnyL (P : Program) (md : Region.Mode) (ops : Array Oper) (Q : Exit → Act → World → Prop) (S : World → Prop) (ks : Nat → Bool) : Nat → Array Bool → Act → World → Prop
  | 0, listed, a, w => Region.ready md ops listed = [] ∧ Q .normal a w
  | fuel + 1, listed, a, w =>
    (Region.ready md ops listed = [] → Q .normal a w) ∧
    ∀ i ∈ Region.ready md ops listed, wpOp P ops Q i (fun a' w' => (ks i = false → S w') ∧ wpAnyL P md ops Q S ks fuel (listed.setIfInBounds i true) a' w') a w
theorem wpAny_of_late {P : Program} {ops : Array Oper} {Q : Exit → Act → World → Prop} {md : Region.Mode} {S : World → Prop} {ks : Nat → Bool} : ∀ (fuel : Nat) (listed : Array Bool) (a : Act) (w : World), wpAnyL P md ops Q S ks fuel listed a w → wpAny P md ops Q fuel listed a w
  | 0, _, _, _, h => h
  | fuel + 1, _, _, _, h => ⟨h.1, fun i hi => wpOp_mono (fun a' w' h' => wpAny_of_late fuel _ a' w' h'.2) (h.2 i hi)⟩
/-- All late ones wait for i. -/
def lateAll (md : Region.Mode) (ops : Array Oper) (ks : Nat → Bool) (i : Nat) : Bool :=
  (List.range ops.size).all fun j => !ks j || match ops[j]? with
    | some o => o.after.any (fun e => Region.binds md e && e.on == i)
    | none => true
theorem lateAll_spec {md : Region.Mode} {ops : Array Oper} {ks : Nat → Bool} {i : Nat} (h : lateAll md ops ks i = true) (j : Nat) (oj : Oper) (hj : ops[j]? = some oj) (hk : ks j = true) : ∃ e ∈ oj.after, Region.binds md e = true ∧ e.on = i := by
  unfold lateAll at h
  rw [List.all_eq_true] at h
  have hl : j < ops.size := by
    rcases Nat.lt_or_ge j ops.size with h' | h'
    · exact h'
    · rw [Array.getElem?_eq_none h'] at hj; cases hj
  have := h j (List.mem_range.2 hl)
  rw [hk, hj] at this
  simp only [Bool.not_true, Bool.false_or, Array.any_eq_true'] at this
  obtain ⟨e, he, hb⟩ := this
  rw [Bool.and_eq_true, beq_iff_eq] at hb
  exact ⟨e, he, hb.1, hb.2⟩
theorem wpAnyL_first {P : Program} {ops : Array Oper} {Q : Exit → Act → World → Prop} {md : Region.Mode} {S : World → Prop} {ks : Nat → Bool} {i : Nat} {oi : Oper} {v : Value} (hi : ops[i]? = some oi) (hsel : ∀ (j : Nat) (o : Oper) cs b, ops[j]? = some o → o.op ≠ .select cs b)
    (hQ : ∀ c a w, Q (.panic c) (a.put oi.dst v) w → Q (.panic c) a w) (hlate : ∀ j oj, ops[j]? = some oj → ks j = true → ∃ e ∈ oj.after, Region.binds md e = true ∧ e.on = i) :
    ∀ (fuel : Nat) (listed : Array Bool) (a : Act) (w : World),
      (∀ j oj, ops[j]? = some oj → j ≠ i → listed.getD j true = false → (∀ e ∈ oj.after, Region.binds md e = true → e.on ≠ i) → oi.apart ops oj = true) →
      i ∈ Region.ready md ops listed → YieldsIf P ops S oi v a → S w →
      wpAnyL P md ops Q S ks fuel (listed.setIfInBounds i true) (a.put oi.dst v) w → wpAnyL P md ops Q S ks (fuel + 1) listed a w := by
  intro fuel
  induction fuel with
  | zero =>
    intro listed a w _ hr hy hS H
    refine ⟨fun h => (by rw [h] at hr; cases hr), fun j hj => ?_⟩
    by_cases hji : j = i
    · subst hji; exact hy.wpOp hi hS ⟨fun _ => hS, H⟩
    · have := ready_mono hj hji
      rw [H.1] at this
      cases this
  | succ fuel ih =>
    intro listed a w hfree hr hy hS H
    refine ⟨fun h => (by rw [h] at hr; cases hr), fun j hj => ?_⟩
    by_cases hji : j = i
    · subst hji; exact hy.wpOp hi hS ⟨fun _ => hS, H⟩
    · have h1 := H.2 j (ready_mono hj hji)
      obtain ⟨hjun, oj, hoj, hall⟩ := mem_ready.1 hj
      have hnot : ∀ e ∈ oj.after, Region.binds md e = true → e.on ≠ i := fun e he hb heq => by
        have h1 := hall e he hb
        have h0 := (mem_ready.1 hr).1
        rw [heq] at h1
        rcases Nat.lt_or_ge i listed.size with h' | h'
        · simp [h'] at h0 h1; rw [h0] at h1; cases h1
        · simp [Array.getElem?_eq_none h'] at h1
      have hkj : ks j = false := by
        cases hk : ks j with
        | false => rfl
        | true =>
          obtain ⟨e, he, hb, ho⟩ := hlate j oj hoj hk
          exact absurd ho (hnot e he hb)
      have h2 := wpOp_putIf hoj (hfree j oj hoj hji hjun hnot) (fun cs b => hsel i oi cs b hi) (fun cs b => hsel j oj cs b hoj) hQ hy h1
      have hfree' : ∀ k ok, ops[k]? = some ok → k ≠ i → (listed.setIfInBounds j true).getD k true = false →
          (∀ e ∈ ok.after, Region.binds md e = true → e.on ≠ i) → oi.apart ops ok = true := fun k ok hk hki hun hno => by
        refine hfree k ok hk hki ?_ hno
        by_cases hjk : j = k
        · subst hjk; exact hjun
        · rw [getD_set_ne true hjk] at hun; exact hun
      refine wpOp_mono (fun a' w' h3 => ⟨fun _ => h3.2.1 hkj, ih (listed.setIfInBounds j true) a' w' hfree' (ready_mono hr (Ne.symm hji)) h3.1 (h3.2.1 hkj) ?_⟩) h2
      rw [Array.setIfInBounds_comm _ _ hji]
      exact h3.2.2
/-- Number i is taken first: it yields v in every world that meets S, and the late ones wait for it. -/
theorem wpAnyL_take {P : Program} {ops : Array Oper} {Q : Exit → Act → World → Prop} {md : Region.Mode} {S : World → Prop} {ks : Nat → Bool} {i : Nat} {oi : Oper} {v : Value} {fuel : Nat} {listed : Array Bool} {a : Act} {w : World} (hi : ops[i]? = some oi)
    (hs : (Region.noSelect ops && (Region.free md ops listed i && ((Region.ready md ops listed).contains i && lateAll md ops ks i))) = true)
    (hQ : ∀ c a w, Q (.panic c) (a.put oi.dst v) w → Q (.panic c) a w) (hy : YieldsIf P ops S oi v a) (hS : S w)
    (h : wpAnyL P md ops Q S ks fuel (listed.setIfInBounds i true) (a.put oi.dst v) w) : wpAnyL P md ops Q S ks (fuel + 1) listed a w := by
  rw [Bool.and_eq_true, Bool.and_eq_true, Bool.and_eq_true] at hs
  exact wpAnyL_first hi (Region.noSelect_spec hs.1) hQ (lateAll_spec hs.2.2.2) fuel listed a w (Region.free_spec hi hs.2.1) (by simpa using hs.2.2.1) hy hS h
def AllReadyL (P : Program) (md : Region.Mode) (ops : Array Oper) (Q : Exit → Act → World → Prop) (S : World → Prop) (ks : Nat → Bool) (fuel : Nat) (listed : Array Bool) (a : Act) (w : World) (rs : List Nat) : Prop :=
  ∀ i ∈ rs, wpOp P ops Q i (fun a' w' => (ks i = false → S w') ∧ wpAnyL P md ops Q S ks fuel (listed.setIfInBounds i true) a' w') a w
theorem AllReadyL.nil {P : Program} {ops : Array Oper} {Q : Exit → Act → World → Prop} {md : Region.Mode} {S : World → Prop} {ks : Nat → Bool} {fuel : Nat} {listed : Array Bool} {a : Act} {w : World} : AllReadyL P md ops Q S ks fuel listed a w [] := fun _ h => by cases h
theorem AllReadyL.cons {P : Program} {ops : Array Oper} {Q : Exit → Act → World → Prop} {md : Region.Mode} {S : World → Prop} {ks : Nat → Bool} {fuel : Nat} {listed : Array Bool} {a : Act} {w : World} {i : Nat} {o : Oper} {rs : List Nat} (ho : ops[i]? = some o)
    (h : ∀ K' : Act → World → Prop, Shut (∀ a w, (ks i = false → S w) → ((ks i = false → S w) → wpAnyL P md ops Q S ks fuel (listed.setIfInBounds i true) a w) → K' a w) → if Region.wanted o (yielded ops a.tmps) = true then Oper.wp P o a w K' Q else K' (a.put o.dst undef) w)
    (hs : AllReadyL P md ops Q S ks fuel listed a w rs) : AllReadyL P md ops Q S ks fuel listed a w (i :: rs) := fun j hj => by
  rcases List.mem_cons.1 hj with rfl | hj
  · exact wpOp_step ho (fun K' hK => h K' (fun a w hS hW => hK a w ⟨hS, hW hS⟩))
  · exact hs j hj
theorem wpAnyL_ready {P : Program} {ops : Array Oper} {Q : Exit → Act → World → Prop} {md : Region.Mode} {S : World → Prop} {ks : Nat → Bool} {rs : List Nat} {fuel : Nat} {listed : Array Bool} {a : Act} {w : World} (hr : Region.ready md ops listed = rs) (hne : rs ≠ [])
    (h : AllReadyL P md ops Q S ks fuel listed a w rs) : wpAnyL P md ops Q S ks (fuel + 1) listed a w := ⟨fun h0 => absurd (hr ▸ h0) hne, hr ▸ h⟩
/-- One alone may come up next, and it is none of the late ones: behind it S is shown. -/
theorem wpAnyL_next {P : Program} {ops : Array Oper} {Q : Exit → Act → World → Prop} {md : Region.Mode} {S : World → Prop} {ks : Nat → Bool} (i : Nat) {o : Oper} {fuel : Nat} {listed : Array Bool} {a : Act} {w : World} (hr : Region.ready md ops listed = [i]) (ho : ops[i]? = some o)
    (h : ∀ K' : Act → World → Prop, Shut (∀ a w, S w → (S w → wpAnyL P md ops Q S ks fuel (listed.setIfInBounds i true) a w) → K' a w) → if Region.wanted o (yielded ops a.tmps) = true then Oper.wp P o a w K' Q else K' (a.put o.dst undef) w) : wpAnyL P md ops Q S ks (fuel + 1) listed a w :=
  wpAnyL_ready hr (by simp) (AllReadyL.cons ho (fun K' hK => h K' (fun a w hS hW => hK.out a w (fun _ => hS) (fun _ => hW hS))) AllReadyL.nil)
/-- One alone may come up next, and it is a late one. -/
theorem wpAnyL_last {P : Program} {ops : Array Oper} {Q : Exit → Act → World → Prop} {md : Region.Mode} {S : World → Prop} {ks : Nat → Bool} (i : Nat) {o : Oper} {fuel : Nat} {listed : Array Bool} {a : Act} {w : World} (hr : Region.ready md ops listed = [i]) (ho : ops[i]? = some o) (hk : ks i = true)
    (h : ∀ K' : Act → World → Prop, Shut (∀ a w, wpAnyL P md ops Q S ks fuel (listed.setIfInBounds i true) a w → K' a w) → if Region.wanted o (yielded ops a.tmps) = true then Oper.wp P o a w K' Q else K' (a.put o.dst undef) w) : wpAnyL P md ops Q S ks (fuel + 1) listed a w :=
  wpAnyL_ready hr (by simp) (AllReadyL.cons ho (fun K' hK => h K' (fun a w hW => hK.out a w (fun h => by rw [hk] at h; cases h) (fun _ => hW))) AllReadyL.nil)
theorem wpAnyL_done {P : Program} {ops : Array Oper} {Q : Exit → Act → World → Prop} {md : Region.Mode} {S : World → Prop} {ks : Nat → Bool} {listed : Array Bool} {a : Act} {w : World} (hr : Region.ready md ops listed = []) (h : Q .normal a w) :
    ∀ fuel, wpAnyL P md ops Q S ks fuel listed a w
  | 0 => ⟨hr, h⟩
  | _ + 1 => ⟨fun _ => h, by rw [hr]; simp⟩
theorem wp_region_late {P : Program} {ops : Array Oper} {Q : Exit → Act → World → Prop} {S : World → Prop} (ks : Nat → Bool) {id : Nat} {a : Act} {w : World} (hm : P.follows .mixedOrders = true) (hS : S w.drew)
    (h : S w.drew → wpAnyL P .any ops Q S ks ops.size (Array.replicate ops.size false) a w.drew) : (Code.region id ops true).wp P Q a w :=
  wp_region_any hm (wpAny_of_late _ _ _ _ (h hS))
end Go.Proofs.YtgbpnepipknjnaaDoor

/- The walks of spec.l11Draw, DrawHeap. -/
namespace Go.Proofs.YtgbpnepipknjnaaDoor
open Go.RowKit
attribute [local go_sem ↓] Go.wp_at_zero Go.wp_at_succ

theorem heap_more {ts : List SlotA} {n : Nat} (hl : ts.length = n) (hn : n < 32) (q : SlotA) : ts ++ List.replicate (32 - n) zeroS = ts ++ zeroS :: List.replicate (32 - (n + 1)) zeroS ∧ (ts ++ q :: List.replicate (32 - (n + 1)) zeroS) = (ts ++ [q]) ++ List.replicate (32 - (n + 1)) zeroS := by
  refine ⟨?_, by simp⟩
  rw [show 32 - n = (32 - (n + 1)) + 1 by omega, List.replicate_succ]
theorem heapOk_snoc {ts : List SlotA} (h : HeapOk ts) (hl : 1 ≤ ts.length) {q : SlotA} (hq : slotB q.v = true) : HeapOk (ts ++ [q]) := by
  refine ⟨?_, fun t ht => ?_⟩
  · cases ts with
    | nil => simp at hl
    | cons t r => exact h.1
  · rcases List.mem_append.1 ht with ht | ht
    · exact h.2 t ht
    · rw [List.mem_singleton.1 ht]; exact hq
theorem own_blockH {w w' : World} {pI : Nat} {y : Int} (h : OwnI w pI (pI + 1) (some ⟨pI, 0, none⟩) 1 [y]) (hb : w'.heap[pI]? = w.heap[pI]?) (hs : pI + 1 ≤ w'.heap.size) : OwnI w' pI (pI + 1) (some ⟨pI, 0, none⟩) 1 [y] := ⟨ownsRow_block h.1 (fun k hk => by cases hk; exact hb), hs, h.2.2⟩
set_option maxHeartbeats 8000000 in
set_option maxRecDepth 100000 in
theorem l11Draw_any (B : Nat) (zs : List Int) (w : World) (hc : CurAt w B zs) (hl : zs.length ≤ 70368744177664) :
    Calls Tryd.prog 34 #[.pointer (some ⟨B, 0, none⟩)] w fun e w' => ∃ g ts, e = .returned (.slice (some ⟨g, 0, none⟩) 32 32) ∧ Hid (ts.length = 32 ∧ HeapOk ts) ∧ OwnVw w' w.heap.size w'.heap.size (some ⟨g, 0, none⟩) 32 ts ∧ w.grownBy w' (some B) := by
  have hB := hc.lt
  obtain ⟨i0, hi, hz0, hz1, hz2⟩ := info_parts Tryd.infoSlotV
  have HJ : Hid ((Tryd.prog.info? 37).map (·.size) = some 4) := by rw [Hid]; kernel_rfl
  go_enter Tryd.func34, Tryd.ntmps34
  go_upto_region 2 with (first | (at_make; refine wpList_make_full _ rfl _ _ 24 rfl w.heap.size 37 i0 (.agg zeroS.cells.toArray) 4 Tryd.underlying24 hi hz0 hz1 _ _ _ _ 32 rfl rfl rfl rfl (by rw [hz2]; omega) (by simp [maxLen]) (Nat.le_refl _) ?_; intro w0 hown0 hgrow0) | fail)
  have hb0 : Below w.heap.size w w0 := (Below.refl _ _).grown hgrow0 (Nat.le_refl _) (fun k h => by cases h)
  have ho : w0.ownsRow w.heap.size 37 4 (.slice (some ⟨w.heap.size, 0, none⟩) 32 32) 32 (cellsVw (List.replicate 32 zeroS)) := by
    rw [← zero_cellsVw]
    exact hown0
  have HO : Hid (OwnVw w0 w.heap.size w0.heap.size (some ⟨w.heap.size, 0, none⟩) 32 ([zeroS] ++ List.replicate (32 - 1) zeroS)) := own_zeroVw 32 ho (Nat.le_refl _) (ho.lt _ rfl).2
  have hc0 := hc.below hb0
  have hg0 : w.grownBy w0 (some B) := ⟨hb0.os, hb0.tape, hb0.output, hb0.size, fun k hk _ => hb0.block k hk⟩
  have HK0 : Hid (HeapOk [zeroS]) := ⟨rfl, fun t ht => by rw [List.mem_singleton.1 ht]; rfl⟩
  clear hown0 hgrow0 ho hb0 hc
  obtain ⟨g, hgE⟩ : ∃ g, Hid (w.heap.size = g) := ⟨_, rfl⟩
  rw [show (some (⟨w.heap.size, 0, none⟩ : Addr)) = some ⟨g, 0, none⟩ from by rw [hgE.out]] at HO
  rw [hgE.out]
  go_wp2_with fail
  go_loopw [4] (fun i wr => ∃ (n : Nat) (ts : List SlotA), 1 ≤ n ∧ n ≤ 32 ∧ i = .int .i64 n ∧ Hid (ts.length = n ∧ HeapOk ts ∧ OwnVw wr w.heap.size wr.heap.size (some ⟨g, 0, none⟩) 32 (ts ++ List.replicate (32 - n) zeroS)) ∧ CurAt wr B zs ∧ w.grownBy wr (some B)) (fun i _ => 32 - (intOf i).toNat)
  case atStart => exact ⟨1, [zeroS], by omega, by omega, rfl, ⟨rfl, HK0.out, HO.out⟩, hc0, hg0⟩
  case round =>
    obtain ⟨n, ts, hn1, hn2, rfl, hI, hcr, hgr⟩ := hrel
    clear HO HK0 hc0 hg0
    by_cases hlt : n < 32
    · have hnI : (n : Int) < 32 := by omega
      have hsr := hgr.size
      have C := l1Once_any B zs 3 wr hcr hl (by omega)
      have HSK : Hid (∀ u, wr.grownBy u (some B) → OwnVw u w.heap.size wr.heap.size (some ⟨g, 0, none⟩) 32 (ts ++ zeroS :: List.replicate (32 - (n + 1)) zeroS)) := fun u hu => by
        have h1 := hI.out.2.2.touch (Touch.of_grown hu (bl := [B]) (fun k hk => by cases hk; simp)) (fun k hk hm => by
          have h2 := (hI.out.2.2.blocks_lt k hk).1
          rw [List.mem_singleton.1 hm] at h2
          omega)
        rw [(heap_more hI.out.1 hlt zeroS).1] at h1
        exact h1
      have HTS : Hid (ts.length = n ∧ HeapOk ts) := ⟨hI.out.1, hI.out.2.1⟩
      clear hI
      go_wp2_with fail
      refine C.mono ?_
      rintro e w1 ⟨b, rfl, hc1, hg1⟩
      clear C
      cases b with
      | true =>
        have HN : Hid ((ts ++ [zeroS]).length = n + 1 ∧ HeapOk (ts ++ [zeroS]) ∧ OwnVw w1 w.heap.size w1.heap.size (some ⟨g, 0, none⟩) 32 ((ts ++ [zeroS]) ++ List.replicate (32 - (n + 1)) zeroS)) := by
          have h1 := (HSK.out w1 hg1).widen (Nat.le_refl _) hg1.size (Nat.le_refl _)
          rw [(heap_more HTS.out.1 hlt zeroS).2] at h1
          exact ⟨by simp [HTS.out.1], heapOk_snoc HTS.out.2 (by rw [HTS.out.1]; exact hn1) rfl, h1⟩
        have hg2 := grownBy_trans hgr hg1
        clear HSK HTS hg1 hgr hcr
        go_wp2_with fail
        go_roundw
        case rel => exact ⟨n + 1, ts ++ [zeroS], by omega, by omega, by go_num, HN, hc1, hg2⟩
        case measure => simp [intOf]; omega
      | false =>
        have hs1 := hg1.size
        go_wp2_with fail
        refine (l1Below_any B zs 3 w1 hc1 hl (by omega)).mono ?_
        rintro e w2 ⟨x, rfl, hx, hc2, hg2⟩
        have hx3 : (x : Int) < 3 := hx (by omega)
        have hs2 := hg2.size
        go_wp2_with fail
        refine (l1Below_any B zs 9 w2 hc2 hl (by omega)).mono ?_
        rintro e w3 ⟨y, rfl, hy, hc3, hg3⟩
        have hy9 : (y : Int) < 9 := hy (by omega)
        have hs3 := hg3.size
        have hg13 : wr.grownBy w3 (some B) := grownBy_trans (grownBy_trans hg1 hg2) hg3
        obtain ⟨V, hV, _, b2, hbV, hsV⟩ := boxes2 w3 [.int .i64 (y : Int)] [.int .i64 (1 + (x : Int)), .slice (some ⟨w3.heap.size, 0, none⟩) 1 1, .slice none 0 0] 3 35
        have hIn : OwnI V w3.heap.size (w3.heap.size + 1) (some ⟨w3.heap.size, 0, none⟩) 1 [(y : Int)] := by
          have := (ownI_lit1M w3 y).below ((Below.refl _ _).alloc (Nat.le_refl _) (.cells #[.int .i64 (1 + (x : Int)), .slice (some ⟨w3.heap.size, 0, none⟩) 1 1, .slice none 0 0] 35))
          rw [← hV.out]
          exact this
        have hgV : wr.grownBy V (some B) := grownBy_new (row := none) hg13 ⟨hbV.os, hbV.tape, hbV.output, hbV.size, fun k hk _ => hbV.block k hk⟩ (fun k e => by cases e)
        have hcV := hc3.below hbV
        have hOR : ObjR V (w3.heap.size + 2) (w3.heap.size + 1) (1 + (x : Int)) (.slice (some ⟨w3.heap.size, 0, none⟩) 1 1) none 0 [] := ⟨b2, ownI_nil _ _ _ (Nat.le_refl _), by omega⟩
        have hpI : wr.heap.size ≤ w3.heap.size := by omega
        have hBI : B < w3.heap.size := by have := hgr.size; omega
        clear hx hy hc1 hc2 hc3 hg1 hg2 hg3 hg13 b2 hbV hsV hcr hs1 hs2 hs3
        go_upto_region 7 with fail
        rw [hV.out]
        clear hV
        generalize w3.heap.size = pI at *
        have hkd1 : 1 ≤ 1 + (x : Int) := by omega
        have hkd3 : 1 + (x : Int) ≤ 3 := by omega
        generalize 1 + (x : Int) = kd at *
        go_wp2_with fail
        refine (l1Below_any B zs 4 V hcV hl (by omega)).mono ?_
        rintro e w4 ⟨kk, rfl, hkk, hc4, hg4⟩
        have hk4 : (kk : Int) < 4 := hkk (by omega)
        have hO4 := hOR.kept hg4 (by omega)
        have hI4 : OwnI w4 pI (pI + 1) (some ⟨pI, 0, none⟩) 1 [(y : Int)] := (hIn.kept hg4 (fun k hk e => by have := (hIn.lt k hk).1; cases e; omega)).widen (Nat.le_refl _) (Nat.le_refl _) (by have := hg4.size; have := hIn.2.1; omega)
        have hgw4 := grownBy_trans hgV hg4
        clear hkk hOR hIn hgV hcV hg4
        generalize wr = wo at *
        go_wp2_with fail
        go_loopw [6] (fun i wr => ∃ (k : Nat) (aR : Option Addr) (cR : Nat) (rs : List Int), i = .int .i64 k ∧ k ≤ 3 ∧ rs.length + k ≤ 3 ∧ ObjR wr (pI + 2) (pI + 1) kd (.slice (some ⟨pI, 0, none⟩) 1 1) aR cR rs ∧ OwnI wr pI (pI + 1) (some ⟨pI, 0, none⟩) 1 [(y : Int)] ∧ CurAt wr B zs ∧ wo.grownBy wr (some B) ∧ Hid (∀ z ∈ rs, 0 ≤ z ∧ z ≤ 31)) (fun i _ => (intOf i).toNat)
        case atStart => exact ⟨kk, none, 0, [], rfl, by omega, by simp; omega, hO4, hI4, hc4, hgw4, fun z hz => by simp at hz⟩
        case round =>
          clear hO4 hI4 hc4 hgw4 hk4
          obtain ⟨k, aR, cR, rs, rfl, hk, hik, ho, hin, hcq, hgq, hrs⟩ := hrel
          cases k with
          | zero =>
            have hqO : (⟨⟨true, ⟨kd, [(y : Int)], rs⟩⟩, some ⟨pI, 0, none⟩, 1, aR, cR⟩ : SlotA).own wr wo.heap.size wr.heap.size := by
              refine ⟨hin.widen hpI (by have := hin.2.1; omega) (Nat.le_refl _), ho.own.widen (by omega) (Nat.le_refl _) (Nat.le_refl _), fun k hk e => ?_⟩
              have h1 := (ho.own.lt k e).1
              cases hk
              simp at h1
              omega
            have hsl : slotB (⟨⟨true, ⟨kd, [(y : Int)], rs⟩⟩, some ⟨pI, 0, none⟩, 1, aR, cR⟩ : SlotA).v = true := slotB_drawn kd y rs _ _ _ _ ⟨hkd1, hkd3⟩ (by omega) (by omega) hrs.out
            have hrow := HSK.out wr hgq
            have HT : Hid (wr.there g (n * 4) 4) := by
              have h1 : (ts ++ zeroS :: List.replicate (32 - (n + 1)) zeroS).length = 32 := by simp [HTS.out.1]; omega
              exact (row_slot (n := 32) (by have := hrow.row; rw [h1] at this; exact this) h1 n hlt).2
            have b0 := ho.box.cell 0 _ rfl
            have b1 := ho.box.cell 1 _ rfl
            have b2 := ho.box.cell 2 _ rfl
            generalize hq : (⟨⟨true, ⟨kd, [(y : Int)], rs⟩⟩, some ⟨pI, 0, none⟩, 1, aR, cR⟩ : SlotA) = q at hqO hsl
            obtain ⟨W, hW, hoW, htW, hsW⟩ := hrow.fill q hqO (Nat.le_refl _) hsr (Nat.le_refl _)
            rw [HTS.out.1] at hW
            have HN : Hid ((ts ++ [q]).length = n + 1 ∧ HeapOk (ts ++ [q]) ∧ OwnVw W w.heap.size W.heap.size (some ⟨g, 0, none⟩) 32 ((ts ++ [q]) ++ List.replicate (32 - (n + 1)) zeroS)) := by
              have h1 := hoW.widen (Nat.le_refl _) (show max wo.heap.size wr.heap.size ≤ W.heap.size by have := hgq.size; omega) (Nat.le_refl _)
              rw [(heap_more HTS.out.1 hlt q).2] at h1
              exact ⟨by simp [HTS.out.1], heapOk_snoc HTS.out.2 (by rw [HTS.out.1]; exact hn1) hsl, h1⟩
            have hgg : B < g := by have := hgE.out; omega
            have hgW : wr.grownBy W (some g) := ⟨htW.os, htW.tape, htW.output, htW.size, fun k hk hne => htW.block k hk (fun hm => hne (by rw [List.mem_singleton.1 hm]))⟩
            have hcW := hcq.kept hgW (fun k e => by cases e; exact hgg)
            have hgF : w.grownBy W (some B) := grownBy_new (grownBy_trans hgr hgq) hgW (fun k e => by cases e; have := hgE.out; omega)
            have HQC : Hid (q.cells.toArray = #[.bool true, .int .i64 kd, .slice (some ⟨pI, 0, none⟩) 1 1, .slice aR rs.length cR]) := by rw [Hid, ← hq]; rfl
            have HO1 := slot_oneV q
            clear hqO hsl hrow hoW htW hsW hgq hgr hcq HSK HTS hrs ho hin hq hgW
            go_wp2_with (first | (guard_target = wpList _ _ _ (Oper.mk none (Op.store _ (Operand.tmp 49) _) _ _ _ _ :: _) _ _; refine wpList_store_mid rfl 37 (.tmp 49) (.tmp 48) rfl g (n * 4) q.cells.toArray rfl (by rw [HQC.out]; rfl) HT.out HJ.out HO1 ?_) | fail)
            rw [hW.out]
            go_roundw
            case rel => exact ⟨n + 1, ts ++ [q], by omega, by omega, by go_num, HN, hcW, hgF⟩
            case measure => simp [intOf]; omega
          | succ m =>
            have hkp : (0 : Int) < ((m + 1 : Nat) : Int) := by omega
            obtain ⟨c2, f2⟩ := ho.three
            have hBB : B < pI + 1 := by omega
            go_wp2_with fail
            have HBD : Hid (∀ x1 x2 : Nat, (x1 : Int) < 32 → (x2 : Int) < 32 → ∀ j, 0 ≤ [0, (n : Int), ((n : Int) + 1).tmod 32, (x1 : Int), (x2 : Int)].getD j 0 ∧ [0, (n : Int), ((n : Int) + 1).tmod 32, (x1 : Int), (x2 : Int)].getD j 0 ≤ 31) := fun x1 x2 h1 h2 j => by
              refine getD_rng (fun z hz => ?_) j
              rw [Int.tmod_eq_emod_of_nonneg (by omega)] at hz
              simp only [List.mem_cons, List.not_mem_nil, or_false] at hz
              omega
            refine wp_region_late (· == 16) (S := fun u => u.cell? ⟨pI + 1, 2, none⟩ = some (.slice aR rs.length cR)) (by kernel_rfl) c2 (fun hHeld => ?_)
            refine wpAnyL_take (i := 0) (v := .pointer (some ⟨pI + 1, 2, none⟩)) rfl (by kernel_rfl) (fun _ _ _ h => h) (Or.inl ⟨by rfl, ?_⟩) hHeld ?_
            · intro w' hSw
              go_simp <;> rfl
            try simp only [Act.put, List.getElem_toArray, List.getElem_cons_zero, List.setIfInBounds_toArray, List.set_cons_zero, List.set_cons_succ]
            refine wpAnyL_take (i := 1) (v := .slice aR rs.length cR) rfl (by kernel_rfl) (fun _ _ _ h => h) (Or.inl ⟨by rfl, ?_⟩) hHeld ?_
            · intro w' hSw
              go_simp <;> rfl
            try simp only [Act.put, List.getElem_toArray, List.getElem_cons_zero, List.getElem_cons_succ, List.setIfInBounds_toArray, List.set_cons_zero, List.set_cons_succ]
            refine wpAnyL_take (i := 2) (v := .pointer (some ⟨B, 0, none⟩)) rfl (by kernel_rfl) (fun _ _ _ h => h) (Or.inl ⟨by rfl, ?_⟩) hHeld ?_
            · intro w' hSw
              go_simp <;> rfl
            try simp only [Act.put, List.getElem_toArray, List.getElem_cons_zero, List.getElem_cons_succ, List.setIfInBounds_toArray, List.set_cons_zero, List.set_cons_succ]
            refine wpAnyL_take (i := 3) (v := .int .i64 (n : Int)) rfl (by kernel_rfl) (fun _ _ _ h => h) (Or.inl ⟨by rfl, ?_⟩) hHeld ?_
            · intro w' hSw
              go_simp <;> rfl
            try simp only [Act.put, List.getElem_toArray, List.getElem_cons_zero, List.getElem_cons_succ, List.setIfInBounds_toArray, List.set_cons_zero, List.set_cons_succ]
            refine wpAnyL_take (i := 4) (v := .int .i64 (n : Int)) rfl (by kernel_rfl) (fun _ _ _ h => h) (Or.inl ⟨by rfl, ?_⟩) hHeld ?_
            · intro w' hSw
              go_simp <;> rfl
            try simp only [Act.put, List.getElem_toArray, List.getElem_cons_zero, List.getElem_cons_succ, List.setIfInBounds_toArray, List.set_cons_zero, List.set_cons_succ]
            refine wpAnyL_take (i := 5) (v := .int .i64 ((n : Int) + 1)) rfl (by kernel_rfl) (fun _ _ _ h => h) (Or.inl ⟨by rfl, ?_⟩) hHeld ?_
            · intro w' hSw
              go_simp
              rw [IntKind.wrap_i64]
              omega
            try simp only [Act.put, List.getElem_toArray, List.getElem_cons_zero, List.getElem_cons_succ, List.setIfInBounds_toArray, List.set_cons_zero, List.set_cons_succ]
            refine wpAnyL_take (i := 6) (v := .int .i64 (((n : Int) + 1).tmod 32)) rfl (by kernel_rfl) (fun _ _ _ h => h) (Or.inl ⟨by rfl, ?_⟩) hHeld ?_
            · intro w' hSw
              go_simp <;> rfl
            try simp only [Act.put, List.getElem_toArray, List.getElem_cons_zero, List.getElem_cons_succ, List.setIfInBounds_toArray, List.set_cons_zero, List.set_cons_succ]
            refine wpAnyL_take (i := 7) (v := .pointer (some ⟨B, 0, none⟩)) rfl (by kernel_rfl) (fun _ _ _ h => h) (Or.inl ⟨by rfl, ?_⟩) hHeld ?_
            · intro w' hSw
              go_simp <;> rfl
            try simp only [Act.put, List.getElem_toArray, List.getElem_cons_zero, List.getElem_cons_succ, List.setIfInBounds_toArray, List.set_cons_zero, List.set_cons_succ]
            refine wpAnyL_take (i := 9) (v := .pointer (some ⟨B, 0, none⟩)) rfl (by kernel_rfl) (fun _ _ _ h => h) (Or.inl ⟨by rfl, ?_⟩) hHeld ?_
            · intro w' hSw
              go_simp <;> rfl
            try simp only [Act.put, List.getElem_toArray, List.getElem_cons_zero, List.getElem_cons_succ, List.setIfInBounds_toArray, List.set_cons_zero, List.set_cons_succ]
            refine wpAnyL_next 8 (by kernel_rfl) rfl (fun K hK => ?_)
            go_simp
            refine (l1Below_any B zs 32 _ (by exact hcq.drew) hl (by omega)).mono ?_
            rintro e u1 ⟨x1, rfl, hx1, hc1, hg1⟩
            have hx1' : (x1 : Int) < 32 := hx1 (by omega)
            have hg1' := grownBy_trans (grown_drew _ (some B)) hg1
            have ho1 := ho.kept hg1' hBB
            refine hK.out _ _ (ho1.three.1) (fun hHeld => ?_)
            clear hK K hx1
            try simp only [Act.put, List.getElem_toArray, List.getElem_cons_zero, List.getElem_cons_succ, List.setIfInBounds_toArray, List.set_cons_zero, List.set_cons_succ]
            refine wpAnyL_next 10 (by kernel_rfl) rfl (fun K hK => ?_)
            go_simp
            refine (l1Below_any B zs 32 u1 hc1 hl (by omega)).mono ?_
            rintro e u2 ⟨x2, rfl, hx2, hc2, hg2⟩
            have hx2' : (x2 : Int) < 32 := hx2 (by omega)
            have ho2 := ho1.kept hg2 hBB
            refine hK.out _ _ (ho2.three.1) (fun hHeld => ?_)
            clear hK K hx2
            try simp only [Act.put, List.getElem_toArray, List.getElem_cons_zero, List.getElem_cons_succ, List.setIfInBounds_toArray, List.set_cons_zero, List.set_cons_succ]
            refine wpAnyL_next 11 (by kernel_rfl) rfl (fun K hK => ?_)
            go_simp
            refine hK.out _ _ ((ho2.alloc _).three.1) (fun hHeld => ?_)
            clear hK K 
            try simp only [Act.put, List.getElem_toArray, List.getElem_cons_zero, List.getElem_cons_succ, List.setIfInBounds_toArray, List.set_cons_zero, List.set_cons_succ]
            refine wpAnyL_next 12 (by kernel_rfl) rfl (fun K hK => ?_)
            go_simp
            refine (l1Int_any B zs _ _ [0, (n : Int), ((n : Int) + 1).tmod 32, (x1 : Int), (x2 : Int)] _ (hc2.alloc _) hl (readsI_lit u2 _ _) (fun b off e => by cases e; have := hc2.lt; omega) (by simp) (by simp)).mono ?_
            rintro e u3 ⟨j, hj, rfl, hc3, hg3⟩
            have hbd := HBD.out x1 x2 hx1' hx2' j
            generalize List.getD _ j (0 : Int) = r at hbd ⊢
            have hg3' := grownBy_trans (World.grownBy_alloc u2 _ (some B)) hg3
            have ho3 := ho2.kept hg3' hBB
            refine hK.out _ _ (ho3.three.1) (fun hHeld => ?_)
            clear hK K hj
            try simp only [Act.put, List.getElem_toArray, List.getElem_cons_zero, List.getElem_cons_succ, List.setIfInBounds_toArray, List.set_cons_zero, List.set_cons_succ]
            refine wpAnyL_next 13 (by kernel_rfl) rfl (fun K hK => ?_)
            go_simp
            refine hK.out _ _ ((ho3.alloc _).three.1) (fun hHeld => ?_)
            clear hK K 
            try simp only [Act.put, List.getElem_toArray, List.getElem_cons_zero, List.getElem_cons_succ, List.setIfInBounds_toArray, List.set_cons_zero, List.set_cons_succ]
            refine wpAnyL_next 14 (by kernel_rfl) rfl (fun K hK => ?_)
            refine step_append_ints rfl (.tmp 30) (.tmp 42) (by rfl) (pI + 2) _ aR cR rs (by rfl) (ho3.alloc _).own _ _ [r] (by rfl) (readsI_lit u3 [r] _) (by intro h; cases h) (by simp; omega) (by have := ho3.box.lt; simp; omega) ?_
            intro a4 c4 y4 u4 hy4 ho4 hg4 hat4
            obtain ⟨⟨d2, f4⟩, hO, hC, hG, hT⟩ := (ho3.alloc _).push (hc3.alloc _) hBB (grownBy_new (grownBy_trans (grownBy_trans (grownBy_trans hgq hg1') hg2) hg3') (World.grownBy_alloc u3 _ none) (fun j e => by cases e)) (by omega) ho4 hg4
            refine hK.out _ _ (d2) (fun hHeld => ?_)
            clear hK K 
            try simp only [Act.put, List.getElem_toArray, List.getElem_cons_zero, List.getElem_cons_succ, List.setIfInBounds_toArray, List.set_cons_zero, List.set_cons_succ]
            refine wpAnyL_take (i := 15) (v := .pointer (some ⟨pI + 1, 2, none⟩)) rfl (by kernel_rfl) (fun _ _ _ h => h) (Or.inl ⟨by rfl, ?_⟩) hHeld ?_
            · intro w' hSw
              go_simp <;> rfl
            try simp only [Act.put, List.getElem_toArray, List.getElem_cons_zero, List.getElem_cons_succ, List.setIfInBounds_toArray, List.set_cons_zero, List.set_cons_succ]
            have hi3 := ((hin.kept hg1' (fun k hk e => by have := (hin.lt k hk).1; cases e; omega)).kept hg2 (fun k hk e => by have := (hin.lt k hk).1; cases e; omega)).kept hg3' (fun k hk e => by have := (hin.lt k hk).1; cases e; omega)
            have hiF := own_blockH ((hi3.below ((Below.refl _ _).alloc (Nat.le_refl _) _)).widen (Nat.le_refl _) (Nat.le_refl _) (by have := ho3.box.lt; simp; omega)) (hT pI (by omega) (by omega) (by have := ho3.box.lt; simp; omega)) (by have := hO.box.lt; omega)
            have hyl : y4.length + m ≤ 3 := by have := congrArg List.length hy4.out; simp at this; omega
            have HR4 : Hid (∀ z ∈ y4, 0 ≤ z ∧ z ≤ 31) := fun z hz => by
              rw [hy4.out] at hz
              rcases List.mem_append.1 hz with hz | hz
              · exact hrs.out z hz
              · rw [List.mem_singleton.1 hz]; exact hbd
            clear hT hat4 hg4 ho4 hc1 hc2 hc3 ho1 ho2 ho3 hg1' hg2 hg3' hcq hgq ho hin hg1 hg3 hy4 hi3 hbd HBD hrs
            refine wpAnyL_last 16 (by kernel_rfl) rfl rfl (fun K hK => ?_)
            go_simp
            refine hK.out _ _ ?_
            clear hK K
            refine wpAnyL_done (by kernel_rfl) ?_ _
            clear hHeld d2 f4
            generalize u4.setCell _ _ = wf at *
            go_wp2_with fail
            go_roundw
            case rel => exact ⟨m, a4, c4, y4, by go_num, by omega, hyl, hO, hiF, hC, hG, HR4⟩
            case measure => simp [intOf]
    · obtain rfl : n = 32 := by omega
      have HN : Hid ((ts.length = 32 ∧ HeapOk ts) ∧ OwnVw wr w.heap.size wr.heap.size (some ⟨g, 0, none⟩) 32 ts) := by
        obtain ⟨h1, h2, h3⟩ := hI.out
        rw [Nat.sub_self, List.replicate_zero, List.append_nil] at h3
        exact ⟨⟨h1, h2⟩, h3⟩
      clear hI
      go_wp2_with fail
      go_ret
      exact ⟨g, ts, rfl, HN.out.1, HN.out.2, hgr⟩
end Go.Proofs.YtgbpnepipknjnaaDoor

/- The walk of spec.DrawHeap: a view that is right. -/
namespace Go.Proofs.YtgbpnepipknjnaaDoor
open Go.RowKit

theorem heap_view {ts : List SlotA} (hl : ts.length = 32) (h : HeapOk ts) : viewB (vsOf ts) = true := by
  rw [viewB_zero (by rw [vsOf_len]; exact hl), vsOf_at, h.1]
  simp only [Bool.not_false, Bool.true_and, List.all_eq_true]
  intro v hv
  obtain ⟨t, ht, rfl⟩ := List.mem_map.1 hv
  exact h.2 t ht
theorem heap_fit {ts : List SlotA} (h : HeapOk ts) : Fit ts := fun s hs => by
  have h1 := h.2 s hs
  unfold slotB at h1
  split at h1
  · obtain ⟨_, h2, h3, _⟩ := okB_bd h1
    exact ⟨by omega, by omega⟩
  · simp only [Bool.and_eq_true, decide_eq_true_eq] at h1
    exact ⟨by omega, by omega⟩
set_option maxHeartbeats 1000000 in
set_option maxRecDepth 100000 in
theorem drawHeap_any (a : Option Addr) (c : Nat) (zs : List Int) (w : World) (hr : Reads w a zs) (hl : zs.length ≤ 70368744177664) :
    Calls Tryd.prog 10 #[.slice a zs.length c] w fun e w' => ∃ g ts, e = .returned (.slice (some ⟨g, 0, none⟩) 32 32) ∧ Hid (ts.length = 32 ∧ viewB (vsOf ts) = true ∧ Fit ts) ∧ OwnVw w' w.heap.size w'.heap.size (some ⟨g, 0, none⟩) 32 ts ∧ Below w.heap.size w w' := by
  go_enter Tryd.func10, Tryd.ntmps10
  go_wp2_with fail
  refine (l1New_any a c zs w hr hl).mono ?_
  rintro e w1 ⟨rfl, hc1, hb1⟩
  go_wp2_with fail
  refine (l11Draw_any w.heap.size zs w1 hc1 hl).mono ?_
  rintro e w2 ⟨g, ts, rfl, hts, ho2, hg2⟩
  have hB : Below w.heap.size w w2 := hb1.grown hg2 hb1.size (fun k hk => by cases hk; exact Nat.le_refl _)
  have hF : Hid (ts.length = 32 ∧ viewB (vsOf ts) = true ∧ Fit ts) := ⟨hts.out.1, heap_view hts.out.1 hts.out.2, heap_fit hts.out.2⟩
  have hO := ho2.widen hb1.size (Nat.le_refl _) (Nat.le_refl _)
  clear hts ho2 hg2 hb1 hc1
  go_wp2_with fail
  go_ret
  exact ⟨g, ts, rfl, hF, hO, hB⟩
end Go.Proofs.YtgbpnepipknjnaaDoor

/- The walk of laws.among. -/
namespace Go.Proofs.YtgbpnepipknjnaaDoor
open Go.RowKit

set_option maxHeartbeats 1000000 in
set_option maxRecDepth 100000 in
theorem among_any (a : Option Addr) (c : Nat) (zs : List Int) (x : Int) (w : World) (hr : ReadsI w a zs) (hl : zs.length ≤ 1099511627776) :
    Calls Tryd.prog 14 #[.slice a zs.length c, .int .i64 x] w fun e w' => e = .returned (.bool (zs.any (· == x))) ∧ w' = w := by
  have HC : Hid (∀ k, k < zs.length → ∃ b off, a = some ⟨b, off, none⟩ ∧ w.cell? ⟨b, off + k, none⟩ = some (.int .i64 (zs.getD k 0))) := fun k hk => by
    obtain ⟨b, off, ha, hc⟩ := hr (by intro e; rw [e] at hk; simp at hk)
    exact ⟨b, off, ha, hc k hk⟩
  have HHIT : Hid (∀ k, k < zs.length → zs.getD k 0 = x → zs.any (· == x) = true) := fun k hk h => any_hit (z := 0) hk (beq_iff_eq.2 h)
  have HSTEP : Hid (∀ k, k < zs.length → (zs.take k).any (· == x) = false → ¬ zs.getD k 0 = x → (zs.take (k + 1)).any (· == x) = false) := fun k hk h h1 => any_step (z := 0) hk h (beq_eq_false_iff_ne.2 h1)
  have HEND : Hid (∀ k, ¬ k < zs.length → (zs.take k).any (· == x) = false → zs.any (· == x) = false) := fun k hk h => any_end hk h
  clear hr
  generalize zs.any (· == x) = R at *
  go_enter Tryd.func14, Tryd.ntmps14
  go_wp2_with fail
  go_loopw [5] (fun i wr => ∃ k : Nat, k ≤ zs.length ∧ i = .int .i64 k ∧ Hid ((zs.take k).any (· == x) = false) ∧ wr = w) (fun i _ => zs.length - (intOf i).toNat)
  case atStart => exact ⟨0, Nat.zero_le _, rfl, (show (zs.take 0).any (· == x) = false by simp), rfl⟩
  case round =>
    obtain ⟨k, hk, rfl, hany, rfl⟩ := hrel
    by_cases hlt : k < zs.length
    · obtain ⟨b, off, rfl, c0⟩ := HC.out k hlt
      have HH1 : Hid (zs.getD k 0 = x → R = true) := fun h => HHIT.out k hlt h
      have HH2 : Hid (¬ zs.getD k 0 = x → (zs.take (k + 1)).any (· == x) = false) := fun h => HSTEP.out k hlt hany.out h
      clear HC HHIT HSTEP HEND
      generalize zs.getD k 0 = z at *
      by_cases hz : z = x
      · have HR : Hid (R = true) := HH1.out hz
        subst hz
        clear HH1 HH2
        go_wp2
        go_ret
        exact ⟨ret_bool HR.out.symm, rfl⟩
      · have HN : Hid ((zs.take (k + 1)).any (· == x) = false) := HH2.out hz
        have hzb : (z == x) = false := by simpa using hz
        clear HH1 HH2 hz
        go_wp2_with fail
        go_roundw
        case rel => exact ⟨k + 1, by omega, by go_num, HN, trivial⟩
        case measure => simp [intOf]; omega
    · have HR : Hid (R = false) := HEND.out k hlt hany.out
      clear HC HHIT HSTEP HEND
      go_wp2
      go_ret
      exact ⟨ret_bool HR.out.symm, rfl⟩
end Go.Proofs.YtgbpnepipknjnaaDoor

/- The walk of laws.big. -/
namespace Go.Proofs.YtgbpnepipknjnaaDoor
open Go.RowKit

set_option maxHeartbeats 400000 in
theorem big_any (a : Option Addr) (c n : Nat) (w : World) : Calls Tryd.prog 9 #[.slice a n c] w fun e w' => e = .returned (.bool (decide (1048576 < n))) ∧ w' = w := by
  by_cases h : 1048576 < n
  · have HB : Hid (decide (1048576 < n) = true) := decide_eq_true h
    go_enter Tryd.func9, Tryd.ntmps9
    go_wp2
    go_ret
    exact ⟨by rw [HB.out]; exact ret_bool (decide_eq_true (by omega)), rfl⟩
  · have HB : Hid (decide (1048576 < n) = false) := decide_eq_false h
    go_enter Tryd.func9, Tryd.ntmps9
    go_wp2
    go_ret
    exact ⟨by rw [HB.out]; exact ret_bool (decide_eq_false (by omega)), rfl⟩

end Go.Proofs.YtgbpnepipknjnaaDoor

/- The walks of laws.sameBytes and laws.at. -/
namespace Go.Proofs.YtgbpnepipknjnaaDoor
open Go.RowKit

theorem ret_natE {k : IntKind} {z : Int} (h : 0 ≤ z) : Ending.returned (.int k z) = .returned (.int k ((z.toNat : Nat) : Int)) := by rw [Int.toNat_of_nonneg h]

set_option maxHeartbeats 400000 in
theorem at_any (a : Option Addr) (c : Nat) (zs : List Int) (i : Nat) (w : World) (hr : Reads w a zs) (hl : zs.length ≤ 70368744177664) (hi : i ≤ 1000) :
    Calls Tryd.prog 11 #[.slice a zs.length c, .int .i64 i] w fun e w' => (∃ n : Nat, n < 256 ∧ e = .returned (.int .i64 n)) ∧ w' = w := by
  by_cases hlt : i < zs.length
  · have hby := bytes_at hr.byte i
    rcases hr.cases with rfl | ⟨b, off, rfl, hpos, hcell⟩
    · simp at hlt
    have hc := hcell i hlt
    clear hcell
    generalize zs.getD i 0 = z at *
    go_enter Tryd.func11, Tryd.ntmps11
    go_wp2
    go_ret
    exact ⟨⟨z.toNat, by omega, ret_natE hby.1⟩, rfl⟩
  · go_enter Tryd.func11, Tryd.ntmps11
    go_wp2
    go_ret
    exact ⟨⟨(((i : Int) * 31 + (zs.length : Int) * 7) % 256).toNat, by omega, ret_natE (by omega)⟩, rfl⟩
end Go.Proofs.YtgbpnepipknjnaaDoor
