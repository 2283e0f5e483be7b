/- Several texts in one, in their order. -/
import Derived.Test.YtgbpnepipknjnaaDoorPFnMarkedx11
import Derived.Maps.RangeWalk
import Derived.Test.YtgbpnepipknjnaaDoorPFnMarkedx2
import Derived.Deep.QuietTactic
import Derived.BigQuiet
/- A range over a set: which keys have come. -/
namespace Go.Proofs.YtgbpnepipknjnaaDoor
open Go.RowKit Go.Maps Go.MapKept
open Go.ChangeMaps (setBlock)

/-- Block B is a map whose keys are ks, block r goes through it: done have come, n are left. -/
def RangeK (w : World) (B r : Nat) (ks dn : List Int) (n : Nat) : Prop := ∃ es clock seen, w.heap[B]? = some (.map es clock) ∧ w.heap[r]? = some (.mapIter (some B) clock seen clock) ∧ es.toList.map (fun e => (e.key, e.val)) = ks.map entK ∧ BornK es clock ∧ (leftOf es seen).size = n ∧ ∀ k : Int, k ∈ dn ↔ ∃ e ∈ es.toList, e.key = .int .i64 k ∧ seen.contains e.born = true
theorem RangeK.lt {w : World} {B r : Nat} {ks dn : List Int} {n : Nat} (h : RangeK w B r ks dn n) : B < w.heap.size ∧ r < w.heap.size := by
  obtain ⟨es, clock, seen, h1, h2, _⟩ := h
  constructor
  · rcases Nat.lt_or_ge B w.heap.size with h | h
    · exact h
    · rw [Array.getElem?_eq_none h] at h1; cases h1
  · rcases Nat.lt_or_ge r w.heap.size with h | h
    · exact h
    · rw [Array.getElem?_eq_none h] at h2; cases h2
theorem RangeK.keep {w w' : World} {B r : Nat} {ks dn : List Int} {n : Nat} (h : RangeK w B r ks dn n) (hb : w'.heap[B]? = w.heap[B]?) (hr : w'.heap[r]? = w.heap[r]?) : RangeK w' B r ks dn n := by
  obtain ⟨es, clock, seen, h1, h2, h3⟩ := h
  exact ⟨es, clock, seen, by rw [hb]; exact h1, by rw [hr]; exact h2, h3⟩
/-- The keys of the entries are the set's. -/
theorem key_mem {es : Array MapEntry} {ks : List Int} (he : es.toList.map (fun e => (e.key, e.val)) = ks.map entK) : (∀ e ∈ es.toList, ∃ k ∈ ks, e.key = .int .i64 k ∧ e.val = .agg #[]) ∧ ∀ k ∈ ks, ∃ e ∈ es.toList, e.key = .int .i64 k := by
  constructor
  · intro e hm
    have : (e.key, e.val) ∈ es.toList.map (fun e => (e.key, e.val)) := List.mem_map.2 ⟨e, hm, rfl⟩
    rw [he] at this
    obtain ⟨k, hk, h⟩ := List.mem_map.1 this
    simp only [entK, Prod.mk.injEq] at h
    exact ⟨k, hk, h.1.symm, h.2.symm⟩
  · intro k hk
    have : entK k ∈ ks.map entK := List.mem_map.2 ⟨k, hk, rfl⟩
    rw [← he] at this
    obtain ⟨e, hm, h⟩ := List.mem_map.1 this
    simp only [entK, Prod.mk.injEq] at h
    exact ⟨e, hm, h.1⟩
theorem wpList_range_k {w : World} {ops : Array Oper} {rest : List Oper} {o : Oper} {a : Act} {Q : Exit → Act → World → Prop} (hg : o.guard = none) (m : Operand) (hop : o.op = Op.range 61 m)
    (B : Nat) (ks : List Int) (hm : a.eval m = .map (some B)) (h : KeysAt w B ks)
    (hK : ∀ w' n, RangeK w' B w.heap.size ks [] n → Below w.heap.size w w' → w'.heap.size = w.heap.size + 1 → wpList Tryd.prog ops Q rest (a.put o.dst (.pointer (some ⟨w.heap.size, 0, none⟩))) w') : wpList Tryd.prog ops Q (o :: rest) a w := by
  refine wpList_plain hg fun K' hK' => ?_
  obtain ⟨es, clock, hb, he, hbn⟩ := h
  have hrun := run_range_map (P := Tryd.prog) w 61 3 85 B es clock Tryd.underlying61 hb
  unfold Oper.wp
  simp [execOp, hop, hm, hrun, Result.andThen]
  have hB : B < w.heap.size := (Array.getElem?_eq_some_iff.1 hb).1
  refine hK' _ _ (hK _ (leftOf es #[]).size ⟨es, clock, #[], by rw [Below.heap_alloc w _ B hB]; exact hb, (heap_alloc w _).1, he, hbn, rfl, fun k => ⟨fun h => by simp at h, fun ⟨e, _, _, h⟩ => by simp at h⟩⟩ ((Below.refl _ _).alloc (Nat.le_refl _) _) (by simp))
theorem wpList_next_k {w : World} {ops : Array Oper} {rest : List Oper} {o : Oper} {a : Act} {Q : Exit → Act → World → Prop} (hg : o.guard = none) (it : Operand) (hop : o.op = Op.next it false)
    (B r : Nat) (ks dn : List Int) (n : Nat) (hit : a.eval it = .pointer (some ⟨r, 0, none⟩)) (h : RangeK w B r ks dn n)
    (hDone : (∀ k ∈ ks, k ∈ dn) → wpList Tryd.prog ops Q rest (a.put o.dst (.tuple #[.bool false])) w)
    (hMore : ∀ (k : Int) (w' : World) (m : Nat), k ∈ ks → RangeK w' B r ks (k :: dn) m → m < n → w.grownBy w' (some r) → w'.heap.size = w.heap.size → (Instr.entry (.pointer (some ⟨r, 0, none⟩))).run Tryd.prog w' = .ok (.tuple #[.int .i64 k, .agg #[]]) w' → wpList Tryd.prog ops Q rest (a.put o.dst (.tuple #[.bool true, .int .i64 k, .agg #[]])) w') : wpList Tryd.prog ops Q (o :: rest) a w := by
  refine wpList_plain hg fun K' hK' => ?_
  obtain ⟨es, clock, seen, hb, hr, he, hbn, hn, hd⟩ := h
  obtain ⟨km1, km2⟩ := key_mem he
  unfold Oper.wp
  rcases run_next_at (P := Tryd.prog) w o.type r B clock clock seen es clock hr hb hbn.1 (Nat.le_refl _) with ⟨h0, hrun⟩ | ⟨e, hel, w1, hw1, hrun⟩
  · simp [execOp, hop, hit, hrun, Result.andThen]
    refine hK' _ _ (hDone (fun k hk => ?_))
    obtain ⟨e, hem, hek⟩ := km2 k hk
    exact (hd k).2 ⟨e, hem, hek, all_seen es seen h0 e hem⟩
  · obtain ⟨hem, hes⟩ := mem_left hel
    obtain ⟨k, hk, hek, hev⟩ := km1 e hem
    have hsh := left_shrinks es seen e hel
    rw [hek, hev] at hrun
    simp [execOp, hop, hit, hrun, Result.andThen]
    have hrs : r < w.heap.size := (Array.getElem?_eq_some_iff.1 hr).1
    have hne : r ≠ B := fun e => by rw [e, hb] at hr; cases hr
    have hw1h : w1.heap = w.heap := by rcases hw1 with rfl | rfl <;> rfl
    have h1 : (setBlock w1 r (.mapIter (some B) clock (seen.push e.born) clock)).heap[B]? = some (.map es clock) := by
      simp only [setBlock, hw1h]
      rw [Array.getElem?_setIfInBounds_ne hne]
      exact hb
    have h2 : (setBlock w1 r (.mapIter (some B) clock (seen.push e.born) clock)).heap[r]? = some (.mapIter (some B) clock (seen.push e.born) clock) := by
      simp only [setBlock, hw1h]
      simp [hrs]
    have hgr : w.grownBy (setBlock w1 r (.mapIter (some B) clock (seen.push e.born) clock)) (some r) := by
      refine ⟨?_, ?_, ?_, by simp [setBlock, hw1h], fun i hi hne2 => ?_⟩
      · rcases hw1 with rfl | rfl <;> rfl
      · rcases hw1 with rfl | rfl <;> rfl
      · rcases hw1 with rfl | rfl <;> rfl
      · simp only [setBlock, hw1h]
        rw [Array.getElem?_setIfInBounds_ne (fun e => hne2 (by rw [e]))]
    refine hK' _ _ (hMore k _ (leftOf es (seen.push e.born)).size hk ⟨es, clock, seen.push e.born, h1, h2, he, hbn, rfl, fun j => ?_⟩ (by omega) hgr (by simp [setBlock, hw1h]) ?_)
    · rw [List.mem_cons, hd j]
      constructor
      · rintro (rfl | ⟨x, hx, hxk, hxs⟩)
        · exact ⟨e, hem, hek, by simp⟩
        · refine ⟨x, hx, hxk, ?_⟩
          simp only [Array.contains_eq_mem, Array.mem_push, decide_eq_true_eq] at hxs ⊢
          exact .inl hxs
      · rintro ⟨x, hx, hxk, hxs⟩
        simp only [Array.contains_eq_mem, Array.mem_push, decide_eq_true_eq] at hxs
        rcases hxs with hxs | hxs
        · exact .inr ⟨x, hx, hxk, by simp only [Array.contains_eq_mem, decide_eq_true_eq]; exact hxs⟩
        · left
          have : x = e := by
            have f1 := find_born e es.toList hbn.2 hem
            have f2 := find_born x es.toList hbn.2 hx
            rw [hxs] at f2
            rw [f1] at f2
            exact (Option.some.inj f2).symm
          rw [this, hek] at hxk
          simp only [Value.int.injEq, true_and] at hxk
          exact hxk.symm
    · have := run_entry_at (P := Tryd.prog) _ r B clock seen es clock e h2 h1 hem hbn.2
      rw [hek, hev] at this
      exact this
end Go.Proofs.YtgbpnepipknjnaaDoor

/- The walks of spec.l2SameInts, spec.l2Same and spec.SameObj. -/
namespace Go.Proofs.YtgbpnepipknjnaaDoor
open Go.RowKit

theorem ne_at {xs ys : List Int} (j : Nat) (h : xs.getD j 0 ≠ ys.getD j 0) : decide (xs = ys) = false := by
  rw [decide_eq_false_iff_not]
  intro e
  exact h (by rw [e])
theorem ne_len {xs ys : List Int} (h : xs.length ≠ ys.length) : decide (xs = ys) = false := by
  rw [decide_eq_false_iff_not]
  intro e
  exact h (by rw [e])
theorem eq_all {xs ys : List Int} (hl : xs.length = ys.length) (h : ∀ t, t < xs.length → xs.getD t 0 = ys.getD t 0) : decide (xs = ys) = true := by
  rw [decide_eq_true_eq]
  apply List.ext_getElem hl
  intro i h1 h2
  have := h i h1
  simpa [List.getD, h1, h2] using this

def sameO (a b : ObjV) : Bool := decide (a.kind = b.kind) && (decide (a.ints = b.ints) && decide (a.refs = b.refs))

end Go.Proofs.YtgbpnepipknjnaaDoor

/- The walk of impl.SameObj. -/
namespace Go.Proofs.YtgbpnepipknjnaaDoor
open Go.RowKit

set_option maxHeartbeats 400000 in
theorem equalInts_any (a b : Option Addr) (ca cb : Nat) (xs ys : List Int) (w : World) (ha : ReadsI w a xs) (hb : ReadsI w b ys) (hl : xs.length ≤ 1099511627776) (hl2 : ys.length ≤ 1099511627776) :
    Calls Tryd.prog 82 #[.slice a xs.length ca, .slice b ys.length cb] w fun e w' => e = .returned (.bool (decide (xs = ys))) ∧ ∃ n, w' = w.drewN n := by
  by_cases hle : xs.length = ys.length
  case neg =>
    have HE : Hid (_ = _) := ne_len hle
    have hle' : ((xs.length : Int) == (ys.length : Int)) = false := by simp; omega
    go_enter Tryd.func82, Tryd.ntmps82
    go_wp2
    go_ret
    exact ⟨ret_bool HE.out.symm, 0, rfl⟩
  case pos =>
  have HL : Hid (xs.length = ys.length) := hle
  have hle' : ((xs.length : Int) == (ys.length : Int)) = true := by simp; omega
  rcases ha.cases with rfl | ⟨b1, o1, rfl, hpos, hc1⟩
  · obtain rfl : ys = [] := List.length_eq_zero_iff.1 (by simpa using hle.symm)
    have HE : Hid (decide (([] : List Int) = []) = true) := by simp [Hid]
    clear hle hle' HL
    go_enter Tryd.func82, Tryd.ntmps82
    go_wp2
    refine wp_loop_rounds 1 ?_
    rw [rounds_succ]
    go_wp2
    go_ret
    exact ⟨ret_bool HE.out.symm, 0, rfl⟩
  · rcases hb.cases with rfl | ⟨b2, o2, rfl, _, hc2⟩
    · simp at hle; simp [hle] at hpos
    · clear hle
      go_enter Tryd.func82, Tryd.ntmps82
      go_wp2
      go_loopw [13] (fun i wr => ∃ k : Nat, k ≤ xs.length ∧ i = .int .i64 k ∧ Hid (∀ t, t < k → xs.getD t 0 = ys.getD t 0) ∧ ∃ n, wr = w.drewN n) (fun i _ => xs.length - (intOf i).toNat)
      case atStart => exact ⟨0, Nat.zero_le _, rfl, fun t ht => by omega, 0, rfl⟩
      case round =>
        obtain ⟨k, hk, rfl, hall, n, rfl⟩ := hrel
        by_cases hlt : k < xs.length
        · have h1 := hc1 k hlt
          have h2 := hc2 k (by have := HL.out; omega)
          have hlt2 : (k : Int) < (ys.length : Int) := by have := HL.out; omega
          clear hc1 hc2
          by_cases hz : xs.getD k 0 = ys.getD k 0
          · have HN : Hid (∀ t, t < k + 1 → xs.getD t 0 = ys.getD t 0) := by
              intro t ht
              by_cases e : t = k
              · rw [e]; exact hz
              · exact hall.out t (by omega)
            rw [← hz] at h2
            clear hz
            generalize xs.getD k 0 = z at *
            go_wp2
            go_quiet (fail)
            go_wp2
            go_roundw
            case rel => exact ⟨k + 1, by omega, by go_num, HN, _, rfl⟩
            case measure => simp [intOf]; omega
          · have HE : Hid (_ = _) := ne_at k hz
            have hzb : (xs.getD k 0 == ys.getD k 0) = false := by simpa using hz
            clear hz
            generalize xs.getD k 0 = z at *
            generalize ys.getD k 0 = y at *
            go_wp2
            go_quiet (fail)
            go_wp2
            go_ret
            exact ⟨ret_bool HE.out.symm, n + nq, by first | rfl | simp⟩
        · have HE : Hid (_ = _) := eq_all HL.out (fun t ht => hall.out t (by omega))
          go_wp2
          go_ret
          exact ⟨ret_bool HE.out.symm, n, rfl⟩

set_option maxHeartbeats 1000000 in
set_option maxRecDepth 100000 in
theorem implSameObj_any (o p : ObjV) (aI : Option Addr) (cI : Nat) (aR : Option Addr) (cR : Nat) (bI : Option Addr) (dI : Nat) (bR : Option Addr) (dR : Nat) (w : World) (ha : ReadsO w aI cI aR cR o) (hb : ReadsO w bI dI bR dR p) (h1 : o.ints.length ≤ 1099511627776) (h2 : o.refs.length ≤ 1099511627776) (h3 : p.ints.length ≤ 1099511627776) (h4 : p.refs.length ≤ 1099511627776) :
    Calls Tryd.prog 73 #[.agg #[.int .i64 o.kind, .slice aI o.ints.length cI, .slice aR o.refs.length cR], .agg #[.int .i64 p.kind, .slice bI p.ints.length dI, .slice bR p.refs.length dR]] w fun e w' => e = .returned (.bool (sameO o p)) ∧ Below w.heap.size w w' := by
  obtain ⟨k, ints, refs⟩ := o
  obtain ⟨k', ints', refs'⟩ := p
  obtain ⟨haI, haR, _, _⟩ := ha
  obtain ⟨hbI, hbR, _, _⟩ := hb
  simp only at *
  obtain ⟨W, hW, b0, b1, hbW, hsW⟩ := boxes2 w [.int .i64 k, .slice aI ints.length cI, .slice aR refs.length cR] [.int .i64 k', .slice bI ints'.length dI, .slice bR refs'.length dR] 35 35
  by_cases hk : k = k'
  case neg =>
    have HE : Hid (sameO ⟨k, ints, refs⟩ ⟨k', ints', refs'⟩ = false) := by simp [Hid, sameO, hk]
    have hkb : (k == k') = false := by simpa using hk
    clear hk
    go_enter Tryd.func73, Tryd.ntmps73
    go_wp2
    go_ret
    exact ⟨ret_bool HE.out.symm, by rw [hW.out]; exact hbW⟩
  case pos =>
  subst hk
  have HE : Hid (sameO ⟨k, ints, refs⟩ ⟨k, ints', refs'⟩ = (decide (ints = ints') && decide (refs = refs'))) := by simp [Hid, sameO]
  go_enter Tryd.func73, Tryd.ntmps73
  go_wp2_with fail
  rw [hW.out]
  refine (equalInts_any aI bI cI dI ints ints' W (haI.below hbW) (hbI.below hbW) h1 h3).mono ?_
  rintro e w1 ⟨rfl, n1, rfl⟩
  have c0 := (b0.drewN n1).cell 2 _ rfl
  have c1 := (b1.drewN n1).cell 2 _ rfl
  have hb1 : Below w.heap.size w (W.drewN n1) := below_drewN hbW n1
  cases hd : decide (ints = ints') with
  | false =>
    rw [hd] at HE
    clear hd
    go_wp2
    go_ret
    exact ⟨ret_bool (by rw [HE.out]; rfl), hb1⟩
  | true =>
    rw [hd] at HE
    clear hd
    go_wp2_with fail
    refine (equalInts_any aR bR cR dR refs refs' (W.drewN n1) (haR.below hb1) (hbR.below hb1) h2 h4).mono ?_
    rintro e w2 ⟨rfl, n2, rfl⟩
    generalize decide (refs = refs') = D at *
    go_wp2
    go_ret
    exact ⟨ret_bool (by rw [HE.out]; rfl), below_drewN hbW (n1 + n2)⟩
end Go.Proofs.YtgbpnepipknjnaaDoor
