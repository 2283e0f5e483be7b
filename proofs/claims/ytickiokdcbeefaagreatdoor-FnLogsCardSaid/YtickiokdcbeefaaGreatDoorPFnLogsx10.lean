/- Several texts in one, in their order. -/
import Derived.Test.YtickiokdcbeefaaGreatDoorPFnLogsx8
import Derived.Test.YtickiokdcbeefaaGreatDoorPFnLogsx9
import Derived.Deep.RegionLaw
import Derived.Deep.DrawnRows
import Derived.Test.YtickiokdcbeefaaGreatDoorPFnLogsx6
import Derived.WalkKit
/- Appending what is under way as a step of a region that draws its order. -/
namespace Go.Proofs.YtickiokdcbeefaaGreatDoor
open Go.RowKit

theorem run_append_lives {w : World} (ty : TypeId) (lo hi : Nat) (a : Option Addr) (c : Nat) (xs : List LiveV) (hown : OwnL w lo hi a c xs)
    (sa : Option Addr) (sc : Nat) (zs : List LiveV) (hr : ReadsL w sa zs) (hc : sa = none → sc = 0) (hb : xs.length + zs.length ≤ 1099511627776) (hlo : lo ≤ w.heap.size) :
    ∃ a' c' ys w', (Builtin.append_ #[40, 40] ty #[.slice a xs.length c, .slice sa zs.length sc]).run Tryz.prog w = .ok (.slice a' ys.length c') w' ∧ Hid (ys = xs ++ zs) ∧ OwnL w' lo w'.heap.size a' c' ys ∧ w.grownBy w' (Value.slice a xs.length c).ownBlock ∧
      (∀ k, (Value.slice a' ys.length c').ownBlock = some k → (Value.slice a xs.length c).ownBlock = some k ∨ k = w.heap.size) := by
  obtain ⟨i0, hi0, hz0, hz1, hz2⟩ := info_parts Tryz.infoLive
  cases sa with
  | none =>
    have hz : zs = [] := by
      by_cases e : zs = []
      · exact e
      · obtain ⟨b, off, hh, _⟩ := hr e
        cases hh
    subst hz
    have := hc rfl
    subst this
    refine ⟨a, c, xs, w, run_append_owned_none (P := Tryz.prog) (w := w) lo 40 ty 62 i0 3 Tryz.underlying40 hi0 _ _ _ hown.1, (by simp [Hid]), ⟨hown.1, Nat.le_refl _, fun k hk => (hown.1.lt k hk).2⟩, World.grownBy.refl _ _, fun k hk => .inl hk⟩
  | some ad =>
    obtain ⟨v', w', h1, h2, h3, _, h5⟩ := run_append_own_at (P := Tryz.prog) w lo 40 ty 62 i0 (.agg #[.int .i64 0, .int .i64 0, .bool false]) 3 24 Tryz.underlying40 hi0 hz0 hz1 hz2 rfl (by decide) _ _ _ hown.1 ad zs.length sc (cellsL zs) (by rw [cellsL_len]) (by
      intro j u hj
      have hjl : j < zs.length * 3 := by rw [← cellsL_len]; exact (List.getElem?_eq_some_iff.1 hj).1
      have hne : zs ≠ [] := by intro e; simp [e] at hjl
      obtain ⟨b, off, hh, hcell⟩ := hr hne
      cases hh
      have hat := cellsL_at zs (j / 3) (j % 3) (by omega) (Nat.mod_lt _ (by omega))
      rw [show j / 3 * 3 + j % 3 = j by omega, hj] at hat
      obtain ⟨k0, k1, k2⟩ := hcell (j / 3) (by omega)
      rw [Addr_add]
      rcases (by omega : j % 3 = 0 ∨ j % 3 = 1 ∨ j % 3 = 2) with h' | h' | h' <;> rw [h'] at hat <;> simp only [LiveV.cells, List.getElem?_cons_zero, List.getElem?_cons_succ, Option.some.injEq] at hat
      · rw [show off + j = off + j / 3 * 3 by omega, k0, hat]
      · rw [show off + j = off + j / 3 * 3 + 1 by omega, k1, hat]
      · rw [show off + j = off + j / 3 * 3 + 2 by omega, k2, hat]) (lives_oneCell _) (by simp only [maxLen]; omega) (by omega) hlo
    rw [← cellsL_app, ← List.length_append] at h2
    have sh : ∃ a' c', v' = .slice a' (xs ++ zs).length c' := by
      rcases h2.2 with ⟨rfl, h0⟩ | ⟨g, cap, cur, rfl, _⟩
      · exact ⟨none, 0, by rw [h0]⟩
      · exact ⟨_, _, rfl⟩
    obtain ⟨a', c', rfl⟩ := sh
    refine ⟨a', c', xs ++ zs, w', h1, rfl, ⟨h2, Nat.le_refl _, fun k hk => (h2.lt k hk).2⟩, h3, fun k hk => ?_⟩
    rcases h5 with h5 | h5
    · exact .inl (by rw [← h5]; exact hk)
    · rw [h5] at hk
      exact .inr (Option.some.inj hk).symm

theorem step_append_lives {w : World} {ops : Array Oper} {o : Oper} {act : Act} {K : Act → World → Prop} {Q : Exit → Act → World → Prop} {E : Prop} (hgd : o.guard = none) (s x : Operand)
    (ho : o.op = .call { callee := .builtin .append, args := #[s, x], argTypes := #[40, 40] })
    (lo hi : Nat) (a : Option Addr) (c : Nat) (xs : List LiveV) (hs : act.eval s = .slice a xs.length c) (hown : OwnL w lo hi a c xs)
    (sa : Option Addr) (sc : Nat) (zs : List LiveV) (hx : act.eval x = .slice sa zs.length sc) (hr : ReadsL w sa zs) (hc : sa = none → sc = 0)
    (hb : xs.length + zs.length ≤ 1099511627776) (hlo : lo ≤ w.heap.size)
    (h : ∀ a' c' ys w', Hid (ys = xs ++ zs) → OwnL w' lo w'.heap.size a' c' ys → w.grownBy w' (Value.slice a xs.length c).ownBlock →
      (∀ k, (Value.slice a' ys.length c').ownBlock = some k → (Value.slice a xs.length c).ownBlock = some k ∨ k = w.heap.size) → K (act.put o.dst (.slice a' ys.length c')) w') :
    if Region.wanted o (yielded ops act.tmps) = true then Oper.wp Tryz.prog o act w K Q else E := by
  have hw : Region.wanted o (yielded ops act.tmps) = true := by simp [Region.wanted, hgd]
  rw [if_pos hw]
  obtain ⟨a', c', ys, w', hrun, h1, h2, h3, h4⟩ := run_append_lives (w := w) o.type lo hi a c xs hown sa sc zs hr hc hb hlo
  unfold Oper.wp execOp
  simp only [ho, resolve, invoke, builtin, Sem.run_bind, Sem.run_pure, Result.andThen_ok, List.map_toArray, List.map_cons, List.map_nil, hs, hx, hrun]
  exact h a' c' ys w' h1 h2 h3 h4

end Go.Proofs.YtickiokdcbeefaaGreatDoor

/- Appending holds, and lives: where the row lies behind it. -/
namespace Go.Proofs.YtickiokdcbeefaaGreatDoor
open Go.RowKit

theorem run_append_holds {w : World} (ty : TypeId) (lo hi : Nat) (a : Option Addr) (c : Nat) (xs : List HoldV) (hown : OwnH w lo hi a c xs)
    (sa : Option Addr) (sc : Nat) (zs : List HoldV) (hr : ReadsH w sa zs) (hc : sa = none → sc = 0) (hb : xs.length + zs.length ≤ 1099511627776) (hlo : lo ≤ w.heap.size) :
    ∃ a' c' ys w', (Builtin.append_ #[103, 103] ty #[.slice a xs.length c, .slice sa zs.length sc]).run Tryz.prog w = .ok (.slice a' ys.length c') w' ∧ Hid (ys = xs ++ zs) ∧ OwnH w' lo w'.heap.size a' c' ys ∧ w.grownBy w' (Value.slice a xs.length c).ownBlock ∧
      (∀ k, (Value.slice a' ys.length c').ownBlock = some k → (Value.slice a xs.length c).ownBlock = some k ∨ k = w.heap.size) := by
  obtain ⟨i0, hi0, hz0, hz1, hz2⟩ := info_parts Tryz.infoHold
  cases sa with
  | none =>
    have hz : zs = [] := by
      by_cases e : zs = []
      · exact e
      · obtain ⟨b, off, hh, _⟩ := hr e
        cases hh
    subst hz
    have := hc rfl
    subst this
    refine ⟨a, c, xs, w, run_append_owned_none (P := Tryz.prog) (w := w) lo 103 ty 182 i0 2 Tryz.underlying103 hi0 _ _ _ hown.1, (by simp [Hid]), ⟨hown.1, Nat.le_refl _, fun k hk => (hown.1.lt k hk).2⟩, World.grownBy.refl _ _, fun k hk => .inl hk⟩
  | some ad =>
    obtain ⟨v', w', h1, h2, h3, _, h5⟩ := run_append_own_at (P := Tryz.prog) w lo 103 ty 182 i0 (.agg #[.int .i64 0, .int .i64 0]) 2 16 Tryz.underlying103 hi0 hz0 hz1 hz2 rfl (by decide) _ _ _ hown.1 ad zs.length sc (cellsH zs) (by rw [cellsH_len]) (by
      intro j u hj
      have hjl : j < zs.length * 2 := by rw [← cellsH_len]; exact (List.getElem?_eq_some_iff.1 hj).1
      have hne : zs ≠ [] := by intro e; simp [e] at hjl
      obtain ⟨b, off, hh, hcell⟩ := hr hne
      cases hh
      have hat := cellsH_at zs (j / 2) (j % 2) (by omega) (Nat.mod_lt _ (by omega))
      rw [show j / 2 * 2 + j % 2 = j by omega, hj] at hat
      obtain ⟨k0, k1⟩ := hcell (j / 2) (by omega)
      rw [Addr_add]
      rcases (by omega : j % 2 = 0 ∨ j % 2 = 1) with h' | h' <;> rw [h'] at hat <;> simp only [HoldV.cells, List.getElem?_cons_zero, List.getElem?_cons_succ, Option.some.injEq] at hat
      · rw [show off + j = off + j / 2 * 2 by omega, k0, hat]
      · rw [show off + j = off + j / 2 * 2 + 1 by omega, k1, hat]) (holds_oneCell _) (by simp only [maxLen]; omega) (by omega) hlo
    rw [← cellsH_app, ← List.length_append] at h2
    have sh : ∃ a' c', v' = .slice a' (xs ++ zs).length c' := by
      rcases h2.2 with ⟨rfl, h0⟩ | ⟨g, cap, cur, rfl, _⟩
      · exact ⟨none, 0, by rw [h0]⟩
      · exact ⟨_, _, rfl⟩
    obtain ⟨a', c', rfl⟩ := sh
    refine ⟨a', c', xs ++ zs, w', h1, rfl, ⟨h2, Nat.le_refl _, fun k hk => (h2.lt k hk).2⟩, h3, fun k hk => ?_⟩
    rcases h5 with h5 | h5
    · exact .inl (by rw [← h5]; exact hk)
    · rw [h5] at hk
      exact .inr (Option.some.inj hk).symm

theorem append_holdsF {w : World} {ops : Array Oper} {rest : List Oper} {o : Oper} {act : Act} {Q : Exit → Act → World → Prop} (hgd : o.guard = none) (s x : Operand)
    (ho : o.op = .call { callee := .builtin .append, args := #[s, x], argTypes := #[103, 103] })
    (lo hi : Nat) (a : Option Addr) (c : Nat) (xs : List HoldV) (hs : act.eval s = .slice a xs.length c) (hown : OwnH w lo hi a c xs)
    (sa : Option Addr) (sc : Nat) (zs : List HoldV) (hx : act.eval x = .slice sa zs.length sc) (hr : ReadsH w sa zs) (hc : sa = none → sc = 0)
    (hb : xs.length + zs.length ≤ 1099511627776) (hlo : lo ≤ w.heap.size)
    (h : ∀ a' c' ys w', Hid (ys = xs ++ zs) → OwnH w' lo w'.heap.size a' c' ys → w.grownBy w' (Value.slice a xs.length c).ownBlock → (∀ k, (Value.slice a' ys.length c').ownBlock = some k → (Value.slice a xs.length c).ownBlock = some k ∨ k = w.heap.size) → wpList Tryz.prog ops Q rest (act.put o.dst (.slice a' ys.length c')) w') :
    wpList Tryz.prog ops Q (o :: rest) act w := by
  obtain ⟨a', c', ys, w', hrun, h1, h2, h3, h4⟩ := run_append_holds (w := w) o.type lo hi a c xs hown sa sc zs hr hc hb hlo
  refine wpList_plain hgd fun K hK => ?_
  unfold Oper.wp execOp
  simp only [ho, resolve, invoke, builtin, Sem.run_bind, Sem.run_pure, Result.andThen_ok, List.map_toArray, List.map_cons, List.map_nil, hs, hx, hrun]
  exact hK _ _ (h a' c' ys w' h1 h2 h3 h4)
end Go.Proofs.YtickiokdcbeefaaGreatDoor

/- The walk of spec.l2Obj. -/
namespace Go.Proofs.YtickiokdcbeefaaGreatDoor
open Go.RowKit
attribute [local go_sem ↓] Go.wp_at_zero Go.wp_at_succ

set_option maxHeartbeats 4000000 in
set_option maxRecDepth 100000 in
theorem l2Obj_any (B : Nat) (zs : List Int) (w : World) (hc : CurAt w B zs) (hl : zs.length ≤ 70368744177664) :
    Calls Tryz.prog 108 #[.pointer (some ⟨B, 0, none⟩)] w fun e w' => ∃ aI cI aR cR o, e = .returned (.agg #[.int .i64 o.kind, .slice aI o.ints.length cI, .slice aR o.refs.length cR]) ∧ o.ints.length ≤ 3 ∧ o.refs.length ≤ 3 ∧ OwnO w' w.heap.size w'.heap.size aI cI aR cR o ∧ CurAt w' B zs ∧ w.grownBy w' (some B) := by
  have hB := hc.lt
  obtain ⟨W, hW, b0, hbW, hsW⟩ := boxes1 w [.int .i64 0, .slice none 0 0, .slice none 0 0] 37
  have hg0 : w.grownBy W (some B) := ⟨hbW.os, hbW.tape, hbW.output, hbW.size, fun k hk _ => hbW.block k hk⟩
  have hcW : CurAt W B zs := hc.below hbW
  have hsW' : w.heap.size < W.heap.size := by omega
  clear hsW hc
  go_enter Tryz.func108, Tryz.ntmps108
  go_wp2_with fail
  rw [hW.out]
  clear hW hbW
  refine (l1Below_any B zs 5 W hcW hl (by omega)).mono ?_
  rintro e w1 ⟨x, rfl, hx, hc1, hg1⟩
  have hx5 : (x : Int) < 5 := hx (by omega)
  have b1 : Box w1 w.heap.size _ _ := b0.block (hg1.block w.heap.size b0.lt (fun e => by cases e; omega))
  have hg01 := grownBy_trans hg0 hg1
  have hs1 := hg1.size
  clear hx b0 hg1 hg0 hcW
  obtain ⟨W2, hW2, b2, hbW2, hsW2⟩ := boxes1 w1 [.int .i64 (1 + (x : Int)), .slice none 0 0, .slice none 0 0] 37
  have hb1' := b1.below hbW2 b1.lt
  have hc2 : CurAt W2 B zs := hc1.below hbW2
  have hg2 : w.grownBy W2 (some B) := grownBy_new (row := none) hg01 ⟨hbW2.os, hbW2.tape, hbW2.output, hbW2.size, fun k hk _ => hbW2.block k hk⟩ (fun k e => by cases e)
  have ho2 : ObjAt W2 (w1.heap.size + 1) w1.heap.size ⟨1 + (x : Int), [], []⟩ none 0 none 0 := ⟨b2, ⟨ownI_nil _ _ _ (Nat.le_refl _), ownI_nil _ _ _ (Nat.le_refl _), fun k hk => by cases hk⟩, by omega⟩
  have hsW2' : w1.heap.size < W2.heap.size := by omega
  clear hsW2 b1 b2 hbW2 hg01 hc1
  go_wp2_with fail
  rw [hW2.out]
  clear hW2
  generalize 1 + (x : Int) = q at *
  generalize w1.heap.size = Bo at *
  refine (l1Below_any B zs 3 W2 hc2 hl (by omega)).mono ?_
  rintro e w3 ⟨y, rfl, hy, hc3, hg3⟩
  have hy3 : (y : Int) < 3 := hy (by omega)
  have hBB : B < Bo := by omega
  have hwB : w.heap.size < Bo := by omega
  have b3 : Box w3 w.heap.size _ _ := hb1'.block (hg3.block w.heap.size hb1'.lt (fun e => by cases e; omega))
  have ho3 := ho2.kept hg3 hBB
  have hgw3 := grownBy_trans hg2 hg3
  clear hy hb1' hc2 hg2 hg3 ho2 hsW2' hs1 hsW' hx5
  go_wp2_with fail
  go_loopw [4] (fun i wr => ∃ (k : Nat) (aI : Option Addr) (cI : Nat) (is : List Int), i = .int .i64 k ∧ k ≤ 2 ∧ is.length + k ≤ 2 ∧ ObjAt wr (Bo + 1) Bo ⟨q, is, []⟩ aI cI none 0 ∧ Box wr w.heap.size [.int .i64 0, .slice none 0 0, .slice none 0 0] 37 ∧ CurAt wr B zs ∧ w.grownBy wr (some B))
    (fun i _ => (intOf i).toNat)
  case atStart => exact ⟨y, none, 0, [], rfl, by omega, by simp; omega, ho3, b3, hc3, hgw3⟩
  case round =>
    obtain ⟨k, aI, cI, is, rfl, hk, hik, ho, hb, hcr, hgr⟩ := hrel
    clear ho3 b3 hc3 hgw3 hy3
    cases k with
    | zero =>
      have hil : is.length ≤ 2 := by omega
      clear hik hk
      go_wp2_with fail
      refine (l1Below_any B zs 4 wr hcr hl (by omega)).mono ?_
      rintro e w4 ⟨z, rfl, hz, hc4, hg4⟩
      have hz4 : (z : Int) < 4 := hz (by omega)
      have b4 := hb.grown hg4 (by omega)
      have ho4 := ho.kept hg4 hBB
      have hgw4 := grownBy_trans hgr hg4
      clear hz hcr hb ho hgr hg4
      go_wp2_with fail
      go_loopw [5] (fun i wr => ∃ (k : Nat) (aR : Option Addr) (cR : Nat) (rs : List Int), i = .int .i64 k ∧ k ≤ 3 ∧ rs.length + k ≤ 3 ∧ ObjAt wr (Bo + 1) Bo ⟨q, is, rs⟩ aI cI aR cR ∧ Box wr w.heap.size [.int .i64 0, .slice none 0 0, .slice none 0 0] 37 ∧ CurAt wr B zs ∧ w.grownBy wr (some B))
        (fun i _ => (intOf i).toNat)
      case atStart => exact ⟨z, none, 0, [], rfl, by omega, by simp; omega, ho4, b4, hc4, hgw4⟩
      case round =>
        clear ho4 b4 hc4 hgw4 hz4 w4
        rename_i _ wx
        obtain ⟨k, aR, cR, rs, rfl, hk, hik, ho, hb, hcr, hgr⟩ := hrel
        cases k with
        | zero =>
          have hrl : rs.length ≤ 3 := by omega
          clear hik hk
          obtain ⟨c0, c1, c2, _, _, _⟩ := ho.three
          obtain ⟨x0, x1, x2, g0, g1, g2⟩ := hb.three
          obtain ⟨WF, hWF, bF, hwF, hsF⟩ := box3_fill hb (.int .i64 q) (.slice aI is.length cI) (.slice aR rs.length cR)
          go_wp2
          rw [hWF.out]
          obtain ⟨q0, q1, q2, _, _, _⟩ := bF.three
          have hlo := ho.lt
          have hgF : wr.grownBy WF (some w.heap.size) := ⟨hwF.os, hwF.tape, hwF.output, hwF.size, fun k hk hn => hwF.block k hk (fun h => hn (by rw [show k = w.heap.size by omega]))⟩
          exact bodyPost_ret (v := .agg #[.int .i64 q, .slice aI is.length cI, .slice aR rs.length cR]) (by simp [results, Tryz.results108, go_sem, q0, q1, q2]) rfl ⟨aI, cI, aR, cR, ⟨q, is, rs⟩, rfl, by simp only; omega, hrl, (ho.own.kept hgF (by omega)).widen (by omega) (Nat.le_refl _) (Nat.le_refl _), hcr.kept hgF (fun k e => by cases e; exact hB), grownBy_new hgr hgF (fun k e => by cases e; exact Nat.le_refl _)⟩
        | succ m =>
          have hkp : (0 : Int) < ((m + 1 : Nat) : Int) := by omega
          obtain ⟨_, _, c2, _, _, f2⟩ := ho.three
          go_wp2_with fail
          go_region_law ((first
            | (go_simp; go_at_call 42; refine (l1Below_any B zs 32 _ (by exact hcr.drew) hl (by omega)).mono ?_; rintro e u1 ⟨x, rfl, hx, hc1, hg1⟩; have hg1' := grownBy_trans (grown_drew _ (some B)) hg1; have ho1 := ho.kept hg1' hBB; obtain ⟨_, _, d2, _, _, _⟩ := ho1.three; have dA := fun ob => (ho1.alloc ob).three.2.2.1)
            | (go_simp; go_at_call 38; refine (l1Int_any B zs _ _ [0, 1, 2, 3, 5, 8, 12, 31, (x : Int)] _ (hc1.alloc _) hl (readsI_lit u1 _ _) (fun b off e => by cases e; have := hc1.lt; omega) (by simp) (by simp)).mono ?_; rintro e u2 ⟨j, hj, rfl, hc2, hg2⟩; generalize List.getD _ j (0 : Int) = n; have hg2' := grownBy_trans (World.grownBy_alloc u1 _ (some B)) hg2; have ho2 := ho1.kept hg2' hBB; obtain ⟨_, _, d2, _, _, _⟩ := ho2.three; have dA := fun ob => (ho2.alloc ob).three.2.2.1)
            | (refine step_append_ints rfl (.tmp 33) (.tmp 39) (by rfl) (Bo + 1) _ aR cR rs (by rfl) (ho2.alloc _).own.refs _ _ [n] (by rfl) (readsI_lit u2 [n] _) (by intro h; cases h) (by simp; omega) (by have := ho2.box.lt; simp; omega) ?_; intro a3 c3 y3 u3 hy3 ho3 hg3 hat3; obtain ⟨⟨d2, f2⟩, hO, hC, hG, hT⟩ := (ho2.alloc _).pushR (hc2.alloc _) hBB (grownBy_new (grownBy_trans (grownBy_trans hgr hg1') hg2') (World.grownBy_alloc u2 _ none) (fun j e => by cases e)) (by omega) ho3 hg3 hat3)))
          all_goals
            have hbF := (((hb.grown hg1' (by omega)).grown hg2' (by omega)).alloc _).block (hT w.heap.size (by omega) (by omega) (((hb.grown hg1' (by omega)).grown hg2' (by omega)).alloc _).lt)
            have hyl : y3.length + m ≤ 3 := by have := congrArg List.length hy3.out; simp at this; omega
            clear hT hat3 hg3 ho3 dA d2 f2 hc1 hc2 ho1 ho2 hg1' hg2' hcr hgr hb ho hg1 hg2 hy3
            generalize u3.setCell _ _ = wf at *
            go_wp2_with fail
            go_roundw
            case rel => exact ⟨m, a3, c3, y3, by go_num, by omega, hyl, hO, hbF, hC, hG⟩
            case measure => simp [intOf]
    | succ m =>
      have hkp : (0 : Int) < ((m + 1 : Nat) : Int) := by omega
      obtain ⟨_, c1, _, _, f1, _⟩ := ho.three
      go_wp2_with fail
      go_region_law ((first
        | (go_simp; go_at_call 42; refine (l1Below_any B zs 50 _ (by exact hcr.drew) hl (by omega)).mono ?_; rintro e u1 ⟨x, rfl, hx, hc1, hg1⟩; have hg1' := grownBy_trans (grown_drew wr (some B)) hg1; have ho1 := ho.kept hg1' hBB; obtain ⟨_, d1, _, _, _, _⟩ := ho1.three; have dA := fun ob => (ho1.alloc ob).three.2.1)
        | (go_simp; go_at_call 38; refine (l1Int_any B zs _ _ [0, 1, -1, 7, 1000000, -1000000, (x : Int)] _ (hc1.alloc _) hl (readsI_lit u1 _ _) (fun b off e => by cases e; have := hc1.lt; omega) (by simp) (by simp)).mono ?_; rintro e u2 ⟨j, hj, rfl, hc2, hg2⟩; generalize List.getD _ j (0 : Int) = n; have hg2' := grownBy_trans (World.grownBy_alloc u1 _ (some B)) hg2; have ho2 := ho1.kept hg2' hBB; obtain ⟨_, d1, _, _, _, _⟩ := ho2.three; have dA := fun ob => (ho2.alloc ob).three.2.1)
        | (refine step_append_ints rfl (.tmp 17) (.tmp 23) (by rfl) (Bo + 1) _ aI cI is (by rfl) (ho2.alloc _).own.ints _ _ [n] (by rfl) (readsI_lit u2 [n] _) (by intro h; cases h) (by simp; omega) (by have := ho2.box.lt; simp; omega) ?_; intro a3 c3 y3 u3 hy3 ho3 hg3 hat3; obtain ⟨⟨d1, f1⟩, hO, hC, hG, hT⟩ := (ho2.alloc _).pushI (hc2.alloc _) hBB (grownBy_new (grownBy_trans (grownBy_trans hgr hg1') hg2') (World.grownBy_alloc u2 _ none) (fun j e => by cases e)) (by omega) ho3 hg3 hat3)))
      all_goals
        have hbF := (((hb.grown hg1' (by omega)).grown hg2' (by omega)).alloc _).block (hT w.heap.size (by omega) (by omega) (((hb.grown hg1' (by omega)).grown hg2' (by omega)).alloc _).lt)
        have hyl : y3.length + m ≤ 2 := by have := congrArg List.length hy3.out; simp at this; omega
        clear hT hat3 hg3 ho3 dA d1 f1 hc1 hc2 ho1 ho2 hg1' hg2' hcr hgr hb ho hg1 hg2 hy3
        generalize u3.setCell _ _ = wf at *
        go_wp2_with fail
        go_roundw
        case rel => exact ⟨m, a3, c3, y3, by go_num, by omega, hyl, hO, hbF, hC, hG⟩
        case measure => simp [intOf]
end Go.Proofs.YtickiokdcbeefaaGreatDoor

/- The walk of spec.l2Bend. -/
namespace Go.Proofs.YtickiokdcbeefaaGreatDoor
open Go.RowKit
attribute [local go_sem ↓] Go.wp_at_zero Go.wp_at_succ

end Go.Proofs.YtickiokdcbeefaaGreatDoor

/- The walks of spec.l1Once, l2ObjAny and DrawPutObj. -/
namespace Go.Proofs.YtickiokdcbeefaaGreatDoor
open Go.RowKit

theorem l1Once_any (B : Nat) (zs : List Int) (n : Int) (w : World) (hc : CurAt w B zs) (hl : zs.length ≤ 70368744177664) (hn : n ≤ 1000000000) :
    Calls Tryz.prog 66 #[.pointer (some ⟨B, 0, none⟩), .int .i64 n] w fun e w' => ∃ b : Bool, e = .returned (.bool b) ∧ CurAt w' B zs ∧ w.grownBy w' (some B) := by
  go_enter Tryz.func66, Tryz.ntmps66
  go_wp2_with fail
  refine (l1Below_any B zs n w hc hl hn).mono ?_
  rintro e w1 ⟨x, rfl, _, hc1, hg1⟩
  go_wp2
  go_ret
  exact ⟨_, rfl, hc1, hg1⟩

end Go.Proofs.YtickiokdcbeefaaGreatDoor

/- The walks of spec.l3DrawSlot and spec.l3DrawPage. -/
namespace Go.Proofs.YtickiokdcbeefaaGreatDoor
open Go.RowKit

theorem CurAt.within {w w' : World} {B l r : Nat} {zs : List Int} (h : CurAt w B zs) (hw : Within l r w w') (hl : B < l) : CurAt w' B zs := by
  have hB := h.lt
  obtain ⟨a, c, i, h, hh, hi, hr, hlt⟩ := h
  refine ⟨a, c, i, h, ?_, hi, ⟨hr.1, fun e => ?_⟩, hlt⟩
  · rw [hw.block B hB (by omega)]; exact hh
  · obtain ⟨b, off, ha, hc⟩ := hr.2 e
    refine ⟨b, off, ha, fun j hj => ?_⟩
    have h1 := hlt e b off ha
    have := World.cell?_of_block (w := w) (w' := w') (a := ⟨b, off + j, none⟩) (hw.block b (block_lt (hc j hj)) (by omega))
    rw [this]
    exact hc j hj
theorem within_cur {w w' : World} {B : Nat} (h : w.grownBy w' (some B)) : Within B (B + 1) w w' := Within.of_grown h (fun k hk => by cases hk; omega)
/-- Something that lies behind the start was written: of what was there nothing but block B. -/
theorem Within.new {B l r : Nat} {w w1 w2 : World} (h : Within B (B + 1) w w1) (h2 : Within l r w1 w2) (hl : w.heap.size ≤ l) : Within B (B + 1) w w2 :=
  ⟨h2.os.trans h.os, h2.tape.trans h.tape, h2.output.trans h.output, Nat.le_trans h.size h2.size, fun k hk hn => (h2.block k (Nat.lt_of_lt_of_le hk h.size) (by omega)).trans (h.block k hk hn)⟩

set_option maxHeartbeats 1000000 in
set_option maxRecDepth 100000 in
theorem l3DrawSlot_any (B : Nat) (zs : List Int) (w : World) (hc : CurAt w B zs) (hl : zs.length ≤ 70368744177664) :
    Calls Tryz.prog 95 #[.pointer (some ⟨B, 0, none⟩)] w fun e w' => ∃ t : SlotA, e = .returned (.agg t.cells.toArray) ∧ (t.v.o.ints.length ≤ 3 ∧ t.v.o.refs.length ≤ 3) ∧ t.own w' w.heap.size w'.heap.size ∧ CurAt w' B zs ∧ Within B (B + 1) w w' := by
  have hB := hc.lt
  obtain ⟨W, hW, b0, hbW, hsW⟩ := boxes1 w [.bool false, .int .i64 0, .slice none 0 0, .slice none 0 0] 39
  have hcW : CurAt W B zs := hc.below hbW
  have hsW' : w.heap.size < W.heap.size := by omega
  clear hsW hc
  go_enter Tryz.func95, Tryz.ntmps95
  go_wp2_with fail
  rw [hW.out]
  clear hW
  refine (l1Once_any B zs 3 W hcW hl (by omega)).mono ?_
  rintro e w1 ⟨bb, rfl, hc1, hg1⟩
  have hw1 := within_cur hg1
  have hs1 := hw1.size
  have b1 := b0.within hw1 (by omega)
  have HW1 : Within B (B + 1) w w1 := (Within.of_below hbW).trans hw1
  clear b0 hg1 hw1 hcW hbW
  cases bb with
  | true =>
    obtain ⟨x0, x1, x2, x3, f0, f1, f2, f3⟩ := b1.four
    obtain ⟨WF, hWF, bF, hwF, hsF⟩ := box4_fill b1 (.bool false) (.int .i64 0) (.slice none 0 0) (.slice none 0 0)
    have HC : Hid (CurAt WF B zs) := hc1.within hwF (by omega)
    have HWF : Hid (Within B (B + 1) w WF) := HW1.new hwF (Nat.le_refl _)
    clear hwF HW1 hc1 b1
    go_wp2
    rw [hWF.out]
    obtain ⟨q0, q1, q2, q3, _⟩ := bF.four
    exact bodyPost_ret (v := .agg #[.bool false, .int .i64 0, .slice none 0 0, .slice none 0 0]) (by simp [results, Tryz.results95, go_sem, q0, q1, q2, q3]) rfl ⟨zeroS, rfl, ⟨by simp [zeroS], by simp [zeroS]⟩, ⟨ownI_nil _ _ _ (Nat.le_refl _), ownI_nil _ _ _ (Nat.le_refl _), fun k hk => by cases hk⟩, HC.out, HWF.out⟩
  | false =>
    go_wp2_with fail
    refine (l2Obj_any B zs w1 hc1 hl).mono ?_
    rintro e w2 ⟨aI, cI, aR, cR, o, rfl, hlI, hlR, ho2, hc2, hg2⟩
    have hw2 := within_cur hg2
    have hs2 := hw2.size
    have b2 := b1.within hw2 (by omega)
    have HW2 : Within B (B + 1) w w2 := HW1.trans hw2
    obtain ⟨x0, x1, x2, x3, f0, f1, f2, f3⟩ := b2.four
    obtain ⟨WF, hWF, bF, hwF, hsF⟩ := box4_fill b2 (.bool true) (.int .i64 o.kind) (.slice aI o.ints.length cI) (.slice aR o.refs.length cR)
    have HC : Hid (CurAt WF B zs) := hc2.within hwF (by omega)
    have HWF : Hid (Within B (B + 1) w WF) := HW2.new hwF (Nat.le_refl _)
    have HOF : Hid (OwnO WF w.heap.size WF.heap.size aI cI aR cR o) := (ho2.within hwF (.inr (by omega))).widen (by omega) (by omega) (Nat.le_refl _)
    clear hwF HW1 HW2 hc1 hc2 b1 b2 hg2 hw2 ho2
    go_wp2
    rw [hWF.out]
    obtain ⟨q0, q1, q2, q3, _⟩ := bF.four
    exact bodyPost_ret (v := .agg #[.bool true, .int .i64 o.kind, .slice aI o.ints.length cI, .slice aR o.refs.length cR]) (by simp [results, Tryz.results95, go_sem, q0, q1, q2, q3]) rfl ⟨⟨⟨true, o⟩, aI, cI, aR, cR⟩, rfl, ⟨hlI, hlR⟩, HOF.out, HC.out, HWF.out⟩

end Go.Proofs.YtickiokdcbeefaaGreatDoor

/- The walk of impl.GetInt, and of the exact law of GetInt. -/
namespace Go.Proofs.YtickiokdcbeefaaGreatDoor
open Go.RowKit

set_option maxHeartbeats 400000 in
theorem implGetInt_any (a : Option Addr) (c : Nat) (zs : List Int) (p : Int) (w : World) (hr : Reads w a zs) (hl : zs.length ≤ 70368744177664) (hcap : zs.length ≤ c) :
    Calls Tryz.prog 136 #[.slice a zs.length c, .int .i64 p] w fun e w' => e = .returned (triple (getAt zs p)) ∧ w' = w := by
  cases hg : getAt zs p with
  | some r =>
    obtain ⟨n, k⟩ := r
    have HS : Hid (scanOf zs p = _) := (show scanOf zs p = scanOk (n, k) from by unfold scanOf; rw [hg])
    clear hg
    go_enter Tryz.func136, Tryz.ntmps136
    go_wp2_with fail
    refine (scanInt_any a c zs p w hr hl hcap).mono ?_
    rintro e w' ⟨rfl, rfl⟩
    rw [HS.out]
    simp only [scanOk]
    go_wp2
    go_ret3
    exact ⟨rfl, rfl⟩
  | none =>
    have HS : Hid (scanOf zs p = _) := scan_none zs p hg _ rfl
    have hw : (scanWhy zs p == 0) = false := by unfold scanWhy; split <;> rfl
    clear hg
    generalize scanWhy zs p = y at *
    go_enter Tryz.func136, Tryz.ntmps136
    go_wp2_with fail
    refine (scanInt_any a c zs p w hr hl hcap).mono ?_
    rintro e w' ⟨rfl, rfl⟩
    rw [HS.out]
    go_wp2
    go_ret3
    exact ⟨rfl, rfl⟩
end Go.Proofs.YtickiokdcbeefaaGreatDoor

/- The walk of impl.readInts: numbers read into variables, one behind the other. -/
namespace Go.Proofs.YtickiokdcbeefaaGreatDoor
open Go.RowKit

/-- Numbers stored at places. -/
def setAll (w : World) : List (Nat × Nat) → List Int → World
  | x :: xs, z :: zs => setAll (w.setCell ⟨x.1, x.2, none⟩ (.int .i64 z)) xs zs
  | [], _ => w
  | _ :: _, [] => w
theorem setAll_snoc (ad : List (Nat × Nat)) : ∀ (l : List Int) (w : World) (x : Nat × Nat) (z : Int), ad.length = l.length → setAll w (ad ++ [x]) (l ++ [z]) = (setAll w ad l).setCell ⟨x.1, x.2, none⟩ (.int .i64 z) := by
  induction ad with
  | nil => intro l w x z h; cases l with
    | nil => rfl
    | cons y r => simp at h
  | cons a r ih => intro l w x z h; cases l with
    | nil => simp at h
    | cons y s => simp only [List.cons_append, setAll]; exact ih s _ x z (by simpa using h)
theorem setAll_within {lo hi : Nat} (ad : List (Nat × Nat)) : ∀ (l : List Int) (w : World), (∀ x ∈ ad, lo ≤ x.1 ∧ x.1 < hi) → Within lo hi w (setAll w ad l) := by
  induction ad with
  | nil => intro l w _; exact Within.refl _ _ _
  | cons a r ih => intro l w h; cases l with
    | nil => exact Within.refl _ _ _
    | cons y s =>
      have ha := h a (by simp)
      have h1 : Within lo hi w (w.setCell ⟨a.1, a.2, none⟩ (.int .i64 y)) := within_set w a.1 a.2 (.int .i64 y) ha
      exact h1.trans (ih s _ (fun x hx => h x (by simp [hx])))
theorem setAll_cell (ad : List (Nat × Nat)) : ∀ (l : List Int) (w : World) (a : Addr), (w.cell? a).isSome = true → ((setAll w ad l).cell? a).isSome = true := by
  induction ad with
  | nil => intro l w a h; exact h
  | cons x r ih => intro l w a h; cases l with
    | nil => exact h
    | cons y s => exact ih s _ a (World.isSome_setCells x.1 [.int .i64 y] x.2 w a h)
theorem setAll_frozen (ad : List (Nat × Nat)) : ∀ (l : List Int) (w : World) (a : Addr), (setAll w ad l).frozen? a = w.frozen? a := by
  induction ad with
  | nil => intro l w a; rfl
  | cons x r ih => intro l w a; cases l with
    | nil => rfl
    | cons y s => simp only [setAll]; rw [ih]; simp
/-- What the reading of so many numbers answers. -/
def IntsAns (w w' : World) (ad : List (Nat × Nat)) (x : Option (List Int × Nat)) (e : Ending) : Prop := match x with
  | some (l, q) => e = .returned (.tuple #[.int .i64 (q : Nat), .bool true]) ∧ w' = setAll w ad l ∧ l.length = ad.length
  | none => e = .returned (.tuple #[.int .i64 0, .bool false]) ∧ ∃ l : List Int, l.length ≤ ad.length ∧ w' = setAll w (ad.take l.length) l
theorem intsAns_none {w w' : World} {ad : List (Nat × Nat)} {x : Option (List Int × Nat)} (h : x = none) (l : List Int) (hl : l.length ≤ ad.length) (hw : w' = setAll w (ad.take l.length) l) : IntsAns w w' ad x (.returned (.tuple #[.int .i64 0, .bool false])) := by subst h; exact ⟨rfl, l, hl, hw⟩
theorem intsAns_some {w w' : World} {ad : List (Nat × Nat)} {x : Option (List Int × Nat)} {l : List Int} {q : Nat} (h : x = some (l, q)) (hw : w' = setAll w ad l) (hl : l.length = ad.length) : IntsAns w w' ad x (.returned (.tuple #[.int .i64 (q : Nat), .bool true])) := by subst h; exact ⟨rfl, hw, hl⟩

set_option maxHeartbeats 2000000 in
set_option maxRecDepth 100000 in
theorem readInts_any (a : Option Addr) (c : Nat) (zs : List Int) (p P cP lo hi : Nat) (ad : List (Nat × Nat)) (w : World) (hrl : ∀ u, Within lo hi w u → Reads u a zs) (hl : zs.length ≤ 70368744177664) (hcap : zs.length ≤ c) (hm : ad.length ≤ 1000)
    (tP : TypeId) (hP : Box w P (ad.map fun x => Value.pointer (some ⟨x.1, x.2, none⟩)) tP) (hPo : P < lo ∨ hi ≤ P)
    (has : ∀ x ∈ ad, (lo ≤ x.1 ∧ x.1 < hi) ∧ (w.cell? ⟨x.1, x.2, none⟩).isSome = true ∧ w.frozen? ⟨x.1, x.2, none⟩ = false) :
    Calls Tryz.prog 121 #[.slice a zs.length c, .int .i64 (p : Int), .slice (some ⟨P, 0, none⟩) ad.length cP] w fun e w' => IntsAns w w' ad (numsAt zs ad.length p) e ∧ Within lo hi w w' := by
  have HW : Hid (∀ k l, Within lo hi w (setAll w (ad.take k) l)) := fun k l => setAll_within _ l w (fun x hx => (has x (List.mem_of_mem_take hx)).1)
  have HAS : Hid (_) := has
  have HPP : Hid (∀ i u, i < ad.length → Within lo hi w u → u.cell? ⟨P, i, none⟩ = some (.pointer (some ⟨(ad.getD i (0, 0)).1, (ad.getD i (0, 0)).2, none⟩))) := fun i u hi hu => (hP.within hu (by omega)).cell i _ (by simp [List.getD, hi])
  have HRL : Hid (_) := hrl
  clear hP has hrl
  go_enter Tryz.func121, Tryz.ntmps121
  go_wp2
  go_loopw [1, 15] (fun t i wr => ∃ (k q : Nat) (l : List Int), k ≤ ad.length ∧ i = .int .i64 k ∧ t = .int .i64 q ∧ Hid (l.length = k ∧ numsAt zs ad.length p = onTo l (numsAt zs (ad.length - k) q)) ∧ wr = setAll w (ad.take k) l) (fun _ i _ => ad.length - (intOf i).toNat)
  case atStart => exact ⟨0, p, [], Nat.zero_le _, rfl, rfl, ⟨rfl, by rw [onTo_nil]; rfl⟩, by simp [setAll]⟩
  case round =>
    obtain ⟨k, q, l, hk, rfl, rfl, hln, rfl⟩ := hrel
    by_cases hlt : k < ad.length
    · have c0 := HPP.out k _ hlt (HW.out k l)
      have hrd := HRL.out _ (HW.out k l)
      have hx := HAS.out (ad.getD k (0, 0)) (by simp [List.getD, hlt])
      obtain ⟨old, hold⟩ := Option.isSome_iff_exists.1 (setAll_cell (ad.take k) l w _ hx.2.1)
      have hfz : (setAll w (ad.take k) l).frozen? ⟨(ad.getD k (0, 0)).1, (ad.getD k (0, 0)).2, none⟩ = false := by rw [setAll_frozen]; exact hx.2.2
      have HSN : Hid (∀ z, setAll w (ad.take (k + 1)) (l ++ [z]) = (setAll w (ad.take k) l).setCell ⟨(ad.getD k (0, 0)).1, (ad.getD k (0, 0)).2, none⟩ (.int .i64 z)) := fun z => by
        have e : ad.take (k + 1) = ad.take k ++ [ad.getD k (0, 0)] := by rw [List.take_add_one]; simp [List.getD, hlt]
        rw [e]
        exact setAll_snoc _ l w _ z (by rw [List.length_take, hln.out.1]; omega)
      have HRK : Hid (ad.length - k = (ad.length - (k + 1)) + 1) := by rw [Hid]; omega
      have C := implGetInt_any a c zs (q : Int) (setAll w (ad.take k) l) hrd hl hcap
      have HWk : Hid (_) := HW.out k l
      have HWE : Hid (l.length ≤ ad.length ∧ setAll w (ad.take k) l = setAll w (ad.take l.length) l) := ⟨by rw [hln.out.1]; exact hk, by rw [hln.out.1]⟩
      clear HPP HAS hx
      generalize ad.getD k (0, 0) = x at *
      cases hgt : getAt zs (q : Int) with
      | none =>
        have HX : Hid (numsAt zs ad.length p = none) := by rw [Hid, hln.out.2, HRK.out]; exact onTo_stop zs l _ q hgt
        rw [hgt] at C
        simp only [triple] at C
        generalize setAll w (ad.take k) l = wr at *
        go_wp2_with fail
        refine C.mono ?_
        rintro e u ⟨rfl, hu⟩
        rw [hu]
        clear hu u
        go_wp2
        go_ret2
        exact ⟨intsAns_none HX.out l HWE.out.1 HWE.out.2, HWk.out⟩
      | some g =>
        obtain ⟨z, q2⟩ := g
        have HX : Hid (numsAt zs ad.length p = onTo (l ++ [z]) (numsAt zs (ad.length - (k + 1)) q2)) := by rw [Hid, hln.out.2, HRK.out]; exact onTo_step zs l _ q q2 z hgt
        rw [hgt] at C
        simp only [triple] at C
        have HS := HSN.out z
        generalize setAll w (ad.take k) l = wr at *
        go_wp2_with fail
        refine C.mono ?_
        rintro e u ⟨rfl, hu⟩
        rw [hu]
        clear hu u
        go_wp2
        go_roundw
        case rel => exact ⟨k + 1, q2, l ++ [z], by omega, by go_num, rfl, ⟨by simp [hln.out.1], HX.out⟩, HS.symm⟩
        case measure => simp [intOf]; omega
    · obtain rfl : k = ad.length := by omega
      have HX : Hid (numsAt zs ad.length p = some (l, q)) := by rw [Hid, hln.out.2, Nat.sub_self]; simp [numsAt, onTo]
      have HT : Hid (ad.take ad.length = ad) := List.take_length
      rw [HT.out]
      have HWk : Hid (Within lo hi w (setAll w ad l)) := by have := HW.out ad.length l; rw [HT.out] at this; exact this
      go_wp2
      go_ret2
      exact ⟨intsAns_some HX.out rfl hln.out.1, HWk.out⟩
end Go.Proofs.YtickiokdcbeefaaGreatDoor

/- The bytes of a text. -/
namespace Go.Proofs.YtickiokdcbeefaaGreatDoor

def sBytes (s : ByteArray) : List Int := s.data.toList.map fun b => (b.toNat : Int)

theorem sBytes_len (s : ByteArray) : (sBytes s).length = s.size := by
  rw [sBytes, List.length_map, Array.length_toList]; rfl
theorem sBytes_byte (s : ByteArray) : ∀ z ∈ sBytes s, 0 ≤ z ∧ z < 256 := by
  intro z hz
  simp only [sBytes, List.mem_map] at hz
  obtain ⟨b, _, rfl⟩ := hz
  have := b.toNat_lt
  omega

theorem sBytes_extract (s : ByteArray) (a b : Nat) : sBytes (s.extract a b) = ((sBytes s).drop a).take (b - a) := by
  unfold sBytes
  rw [ByteArray.data_extract, Array.toList_extract, List.map_take, List.map_drop]

theorem sBytes_step (s : ByteArray) (f p : Nat) (h : f ≤ p) : (sBytes s).take f ++ sBytes (s.extract f p) = (sBytes s).take p := by
  rw [sBytes_extract, ← List.take_add, Nat.add_sub_cancel' h]

theorem sBytes_rest (s : ByteArray) (f : Nat) (h : f ≤ s.size) : (sBytes s).take f ++ sBytes (s.extract f s.size) = sBytes s := by
  rw [sBytes_step s f s.size h, List.take_of_length_le (by rw [sBytes_len]; exact Nat.le_refl _)]

end Go.Proofs.YtickiokdcbeefaaGreatDoor
