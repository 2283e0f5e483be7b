/- Several texts in one, in their order. -/
import Derived.Test.YtekljhabjkmhpaaDoorPFnDroppedx13
import Derived.Test.YtekljhabjkmhpaaDoorPFnDroppedx17
import Derived.Test.YtekljhabjkmhpaaDoorPFnDroppedx18
import Derived.Test.YtekljhabjkmhpaaDoorPFnDroppedx10
import Derived.Test.YtekljhabjkmhpaaDoorPFnDroppedx15
import Derived.Deep.LoopGhost
import Derived.Test.YtekljhabjkmhpaaDoorPFnDroppedx12
/- The walk of impl.DropAll, of locks that are right. -/
namespace Go.Proofs.YtekljhabjkmhpaaDoor
open Go.RowKit

theorem dropI_at {tx : Int} {n : Nat} {R : List GrantV} {s : List GrantV × List GrantV × List Int} (h : DropI tx n s R) : ∀ j, j ≤ R.length → DropI tx n ((R.take j).foldl dropStep s) (R.drop j) := by
  intro j
  induction j with
  | zero => intro _; simpa using h
  | succ j ih =>
    intro hj
    have h1 := ih (by omega)
    rw [fold_step dropStep s R zeroG j (by omega)]
    rw [List.drop_eq_getElem_cons (by omega : j < R.length), ← getD_get R j (by omega) zeroG] at h1
    exact (dropI_step h1).1
theorem append_grantsK {w : World} {ops : Array Oper} {rest : List Oper} {o : Oper} {act : Act} {Q : Exit → Act → World → Prop} (hgd : o.guard = none) (s x : Operand)
    (ho : o.op = .call { callee := .builtin .append, args := #[s, x], argTypes := #[28, 28] })
    (lo hi : Nat) (a : Option Addr) (c : Nat) (xs : List GrantV) (hs : act.eval s = .slice a xs.length c) (hown : OwnG w lo hi a c xs)
    (sa : Option Addr) (sc : Nat) (zs : List GrantV) (hx : act.eval x = .slice sa zs.length sc) (hr : ReadsG w sa zs) (hc : sa = none → sc = 0)
    (hb : xs.length + zs.length ≤ 1099511627776) (hlo : lo ≤ w.heap.size)
    (h : ∀ a' c' ys w', Hid (ys = xs ++ zs) → OwnG w' lo w'.heap.size a' c' ys → w.grownBy w' (Value.slice a xs.length c).ownBlock → (∀ k, (Value.slice a' ys.length c').ownBlock = some k → (Value.slice a xs.length c).ownBlock = some k ∨ k = w.heap.size) → wpList Tryd.prog ops Q rest (act.put o.dst (.slice a' ys.length c')) w') :
    wpList Tryd.prog ops Q (o :: rest) act w := by
  obtain ⟨a', c', ys, w', hrun, h1, h2, h3, h4⟩ := run_append_grants (w := w) o.type lo hi a c xs hown sa sc zs hr hc hb hlo
  refine wpList_plain hgd fun K hK => ?_
  unfold Oper.wp execOp
  simp only [ho, resolve, invoke, builtin, Sem.run_bind, Sem.run_pure, Result.andThen_ok, List.map_toArray, List.map_cons, List.map_nil, hs, hx, hrun]
  exact hK _ _ (h a' c' ys w' h1 h2 h3 h4)

/-- What a drop answers. -/
def DropAns (G V : List GrantV) (tx : Int) (w : World) (e : Ending) (w' : World) : Prop := ∃ (l' : LocksA) (a : Option Addr) (c : Nat), e = .returned (.tuple #[.agg #[.slice l'.aG l'.given.length l'.cG, .slice l'.aW l'.waits.length l'.cW], .slice a (dropV G V tx).2.2.length c]) ∧ l'.given = (dropV G V tx).1 ∧ l'.waits = (dropV G V tx).2.1 ∧ l'.own w' w.heap.size w'.heap.size ∧ OwnI w' w.heap.size w'.heap.size a c (dropV G V tx).2.2 ∧ Below w.heap.size w w'

/-- How a round's things lie: the result's box R, the locks in B, the woken, who waits still. -/
structure DropAt (w wr : World) (lo B top : Nat) (li : LocksA) (aK : Option Addr) (cK : Nat) (K : List Int) (aR : Option Addr) (cR : Nat) (V0 : List GrantV) : Prop where
  low : Below w.heap.size w wr
  res : Box wr (w.heap.size + 1) [.slice none 0 0, .slice none 0 0] 30
  lk : LkAt wr lo B li
  own : OwnI wr (w.heap.size + 2) wr.heap.size aK cK K
  row : OwnG wr (B + 1) top aR cR V0
  where' : ∀ k ∈ li.blocks, (lo ≤ k ∧ k < B) ∨ top ≤ k
  kin : ∀ k, (Value.slice aK K.length cK).ownBlock = some k → (k = w.heap.size + 2 ∨ top ≤ k) ∧ k ∉ li.blocks
  ord : w.heap.size + 3 ≤ lo ∧ lo ≤ B ∧ B < top ∧ top ≤ wr.heap.size
theorem DropAt.below {w wr u : World} {lo B top : Nat} {li : LocksA} {aK : Option Addr} {cK : Nat} {K : List Int} {aR : Option Addr} {cR : Nat} {V0 : List GrantV} (h : DropAt w wr lo B top li aK cK K aR cR V0) (hb : Below wr.heap.size wr u) : DropAt w u lo B top li aK cK K aR cR V0 :=
  ⟨h.low.trans (hb.mono h.low.size), h.res.below hb h.res.lt, h.lk.below hb, (h.own.below hb).widen (Nat.le_refl _) hb.size (Nat.le_refl _), h.row.below hb, h.where', h.kin, by have := hb.size; have := h.ord; omega⟩
theorem DropAt.step {w wr u : World} {lo B top : Nat} {li l' : LocksA} {aK : Option Addr} {cK : Nat} {K : List Int} {aR : Option Addr} {cR : Nat} {V0 : List GrantV} (h : DropAt w wr lo B top li aK cK K aR cR V0) (hs : LkStep wr u lo B li l') : DropAt w u lo B top l' aK cK K aR cR V0 := by
  have ho := h.ord
  have hz := hs.size
  have hn : ∀ k, k < lo → k ∉ B :: li.blocks := fun k hk hm => by
    rcases List.mem_cons.1 hm with e | e
    · omega
    · rcases h.where' k e with q | q <;> omega
  refine ⟨h.low.trans (hs.low h.lk (by omega) (by omega)), h.res.touch hs.touch (hn _ (by omega)), hs.now, ?_, h.row.touch hs.touch (fun k hk hm => ?_), fun k hk => ?_, fun k hk => ⟨(h.kin k hk).1, fun hm => ?_⟩, by omega⟩
  · exact (h.own.touch hs.touch (fun k hk hm => by
      rcases List.mem_cons.1 hm with e | e
      · rcases (h.kin k hk).1 with q | q <;> omega
      · exact (h.kin k hk).2 e)).widen (Nat.le_refl _) hz (Nat.le_refl _)
  · have h1 := h.row.lt k hk
    rcases List.mem_cons.1 hm with e | e
    · omega
    · rcases h.where' k e with q | q <;> omega
  · rcases hs.fresh k hk with e | e
    · exact h.where' k e
    · exact .inr (by omega)
  · rcases hs.fresh k hm with e | e
    · exact (h.kin k hk).2 e
    · have := (h.own.lt k hk).2; omega
theorem DropAt.push {w wr u : World} {lo B top : Nat} {li : LocksA} {aK : Option Addr} {cK : Nat} {K : List Int} {aR : Option Addr} {cR : Nat} {V0 : List GrantV} (h : DropAt w wr lo B top li aK cK K aR cR V0) (hg : wr.grownBy u (Value.slice aK K.length cK).ownBlock) {a' : Option Addr} {c' : Nat} {ys : List Int} (ho : OwnI u (w.heap.size + 2) u.heap.size a' c' ys)
    (hk : ∀ k, (Value.slice a' ys.length c').ownBlock = some k → (Value.slice aK K.length cK).ownBlock = some k ∨ k = wr.heap.size) : DropAt w u lo B top li a' c' ys aR cR V0 := by
  have hod := h.ord
  have ht : Touch (Value.slice aK K.length cK).ownBlock.toList wr u := Touch.of_grown hg (fun k hk => Option.mem_toList.2 hk)
  have kk : ∀ k ∈ (Value.slice aK K.length cK).ownBlock.toList, (k = w.heap.size + 2 ∨ top ≤ k) ∧ k ∉ li.blocks := fun k hm => h.kin k (Option.mem_toList.1 hm)
  refine ⟨h.low.grown hg (by have := h.low.size; omega) (fun k hk => by rcases (h.kin k hk).1 with q | q <;> omega), h.res.touch ht (fun hm => by rcases (kk _ hm).1 with q | q <;> omega), h.lk.touch ht (fun hm => by rcases (kk _ hm).1 with q | q <;> omega) (fun k hk hm => (kk k hm).2 hk), ho, h.row.touch ht (fun k hk hm => ?_), h.where', fun k hk' => ?_, by have := hg.size; omega⟩
  · have h1 := h.row.lt k hk
    rcases (kk k hm).1 with q | q <;> omega
  · rcases hk k hk' with e | e
    · exact h.kin k e
    · refine ⟨.inr (by omega), fun hm => ?_⟩
      have := (h.lk.own.lt hm).2; omega

set_option maxHeartbeats 8000000 in
set_option maxRecDepth 100000 in
theorem implDropAll_any (l : LocksA) (tx : Int) (w : World) (hTG : TabGo w) (hTB : TabBoth w) (hr : l.reads w) (hgd : GoodG l.given ∧ GoodW l.waits) (hlen : l.given.length + l.waits.length ≤ 30) :
    Calls Tryd.prog 21 #[.agg #[.slice l.aG l.given.length l.cG, .slice l.aW l.waits.length l.cW], .int .i64 tx] w fun e w' => DropAns l.given l.waits tx w e w' := by
  obtain ⟨W, hW, b0, b1, hbW, hsW⟩ := boxes2 w [.slice l.aG l.given.length l.cG, .slice l.aW l.waits.length l.cW] [.slice none 0 0, .slice none 0 0] 30 30
  obtain ⟨W1, hW1, bK, hbW1, hsW1⟩ := boxes1 W [] 3
  have hoK0 : OwnI W1 W.heap.size W1.heap.size (some ⟨W.heap.size, 0, none⟩) 0 [] := by rw [← hW1.out]; exact (ownI_lit0 W).widen (Nat.le_refl _) (by simp) (Nat.le_refl _)
  have D1 : Below w.heap.size w W1 := hbW.trans (hbW1.mono hbW.size)
  have hs0 := b0.lt
  have hs1 := b1.lt
  have b0' := b0.below hbW1 hs0
  have b1' := b1.below hbW1 hs1
  have hok : okLocks l.given l.waits = true := good_ok hgd.1 hgd.2 (by omega) (by omega)
  have C0 := implLocksOk_any l W1 (hTG.keep D1) (hr.below D1) ⟨by omega, by omega⟩
  rw [hok] at C0
  have hWs : W.heap.size = w.heap.size + 2 := hsW
  have HWs : Hid (W.heap.size = w.heap.size + 2) := hsW
  have hWs1 : W.heap.size ≤ w.heap.size + 2 := Nat.le_of_eq hsW
  have hWs2 : w.heap.size + 2 ≤ W.heap.size := Nat.le_of_eq hsW.symm
  have hW1a : W1.heap.size ≤ W.heap.size + 1 := Nat.le_of_eq hsW1
  have hW1b : W.heap.size + 1 ≤ W1.heap.size := Nat.le_of_eq hsW1.symm
  have x0 := b0'.cell 0 _ rfl
  have x1 := b0'.cell 1 _ rfl
  obtain ⟨DV, HDV⟩ : ∃ DV, Hid (DropAns l.given l.waits tx w = DV) := ⟨_, rfl⟩
  rw [HDV.out]
  clear hsW hsW1 hWs bK b0 b1 hbW hbW1 hok
  go_enter Tryd.func21, Tryd.ntmps21
  go_upto_region 1 with fail
  rw [hW.out]
  clear hW
  go_upto_region 2 with fail
  rw [hW1.out]
  clear hW1
  go_wp2_with fail
  refine C0.mono ?_
  clear C0 x0 x1
  rintro e w2 ⟨rfl, hb2⟩
  have b02 := b0'.below hb2 b0'.lt
  have b12 := b1'.below hb2 b1'.lt
  have hoK2 := hoK0.below hb2
  have D2 : Below w.heap.size w w2 := D1.trans (hb2.mono D1.size)
  have hz2 := hb2.size
  have hr2 := hr.below D2
  have x0 := b02.cell 0 _ rfl
  have C1 := without_any l.given l.aG l.cG tx w2 hr2.given (by omega)
  have HV0 : Hid (withoutL l.waits tx = l.waits.filter (fun g => g.tx != tx) ∧ withoutL l.given tx = l.given.filter (fun g => g.tx != tx)) := ⟨rfl, rfl⟩
  rw [← HV0.out.2] at C1
  have HC2 : Hid (∀ u, Below w2.heap.size w2 u → Calls Tryd.prog 48 #[.slice l.aW l.waits.length l.cW, .int .i64 tx] u fun e w' => ∃ a' c', e = .returned (.slice a' (withoutL l.waits tx).length c') ∧ OwnG w' u.heap.size w'.heap.size a' c' (withoutL l.waits tx) ∧ Below u.heap.size u w') := fun u hu => by
    rw [HV0.out.1]
    exact without_any l.waits l.aW l.cW tx u (hr2.waits.below hu) (by omega)
  have HDI : Hid (DropI tx 30 (withoutL l.given tx, [], []) (withoutL l.waits tx)) := by
    have h1 := dropI_start hgd.1 hgd.2 tx
    exact ⟨h1.gg, h1.gw, by have := h1.len; omega, h1.none, h1.left, h1.wait⟩
  have HDF : Hid (dropV l.given l.waits tx = (withoutL l.waits tx).foldl dropStep (withoutL l.given tx, [], [])) := rfl
  have HFIN : Hid (∀ (l' : LocksA) (K : List Int) (aK : Option Addr) (cK : Nat) (u : World), (l'.given, l'.waits, K) = (withoutL l.waits tx).foldl dropStep (withoutL l.given tx, [], []) → l'.own u w.heap.size u.heap.size → OwnI u w.heap.size u.heap.size aK cK K → Below w.heap.size w u → DV (.returned (.tuple #[.agg #[.slice l'.aG l'.given.length l'.cG, .slice l'.aW l'.waits.length l'.cW], .slice aK K.length cK])) u) := fun l' K aK cK u e h1 h2 h3 => by
    rw [← HDV.out]
    rw [← HDF.out] at e
    have e1 : (dropV l.given l.waits tx).1 = l'.given := by rw [← e]
    have e2 : (dropV l.given l.waits tx).2.1 = l'.waits := by rw [← e]
    have e3 : (dropV l.given l.waits tx).2.2 = K := by rw [← e]
    exact ⟨l', aK, cK, by rw [e3], e1.symm, e2.symm, h1, by rw [e3]; exact h2, h3⟩
  have hvl : (withoutL l.waits tx).length ≤ 30 := by
    have : (withoutL l.waits tx).length ≤ l.waits.length := List.length_filter_le _ _
    omega
  clear HDV HDF hgd hr HV0 b0' b1' hoK0 hb2 D1
  generalize withoutL l.given tx = G0 at *
  generalize withoutL l.waits tx = V0 at *
  go_wp2_with fail
  refine C1.mono ?_
  clear C1 x0
  rintro e w3 ⟨a1, c1, rfl, ho3, hb3⟩
  have hz3 := hb3.size
  obtain ⟨W4, hW4, b4, hb4, hs4⟩ := boxes1 w3 [.slice a1 G0.length c1, .slice none 0 0] 30
  have hL4 : LkAt W4 w2.heap.size w3.heap.size ⟨G0, [], a1, c1, none, 0⟩ := by
    rw [← hW4.out]
    exact lkAt_new (l := ⟨G0, [], a1, c1, none, 0⟩) ⟨ho3, ownG_nil _ _ _ (Nat.le_refl _), fun k _ e => by cases e⟩
  have D4 : Below w2.heap.size w2 W4 := hb3.trans (hb4.mono hb3.size)
  have x1 := (b02.below D4 b02.lt).cell 1 _ rfl
  have hz4 := hL4.box.lt
  have C2 := HC2.out W4 D4
  clear HC2 hs4 b4
  go_upto_region 5 with fail
  rw [hW4.out]
  clear hW4
  go_wp2_with fail
  refine C2.mono ?_
  clear C2 x1
  rintro e w5 ⟨aR, cR, rfl, hoR, hb5⟩
  have hz5 := hb5.size
  have D5 : Below w2.heap.size w2 w5 := D4.trans (hb5.mono D4.size)
  have HD0 : Hid (DropAt w w5 w2.heap.size w3.heap.size w5.heap.size ⟨G0, [], a1, c1, none, 0⟩ (some ⟨W.heap.size, 0, none⟩) 0 [] aR cR V0) := by
    have hoK5 := hoK2.below D5
    have hbl : ∀ k ∈ LocksA.blocks ⟨G0, [], a1, c1, none, 0⟩, w2.heap.size ≤ k ∧ k < w3.heap.size := fun k hk => by
      rcases blocks_cases hk with e | e
      · exact ho3.lt k e
      · cases e
    refine ⟨D2.trans (D5.mono D2.size), b12.below D5 b12.lt, hL4.below hb5, hoK5.widen (by omega) hoK5.2.1 (Nat.le_refl _), hoR.widen (by omega) (Nat.le_refl _) (Nat.le_refl _), fun k hk => .inl (hbl k hk), fun k hk => ?_, by omega⟩
    have hk' : W.heap.size = k := by simpa [Value.ownBlock] using hk
    exact ⟨.inl (by omega), fun hm => by have := (hbl k hm).1; omega⟩
  have HTT : Hid (∀ u, Below w.heap.size w u → TabGo u ∧ TabBoth u) := fun u hu => ⟨hTG.keep hu, hTB.keep hu⟩
  have hB3 : w3.heap.size < w5.heap.size := by omega
  clear hL4 hoR hb5 D5 D4 hb3 hb4 ho3 hoK2 b02 b12 hr2 hTG hTB
  go_wp2_with fail
  go_loopw [6, 27] (fun o i wr => ∃ (j : Nat) (li : LocksA) (aK : Option Addr) (cK : Nat) (K : List Int), j ≤ V0.length ∧ i = .int .i64 j ∧ o = .slice aK K.length cK ∧ Hid ((li.given, li.waits, K) = (V0.take j).foldl dropStep (G0, [], [])) ∧ DropAt w wr w2.heap.size w3.heap.size w5.heap.size li aK cK K aR cR V0) (fun _ i _ => V0.length - (intOf i).toNat)
  case atStart => exact ⟨0, ⟨G0, [], a1, c1, none, 0⟩, _, _, [], Nat.zero_le _, rfl, rfl, rfl, HD0.out⟩
  case round =>
    obtain ⟨j, li, aK, cK, K, hj, rfl, rfl, hI, hD⟩ := hrel
    clear HD0
    have hod := hD.ord
    by_cases hlt : j < V0.length
    · obtain ⟨b, off, rfl, hcs⟩ := hD.row.reads (by intro e; rw [e] at hlt; simp at hlt)
      obtain ⟨d0, d1, d2⟩ := hcs j hlt
      have HDJ : Hid (_) := dropI_at HDI.out j hj
      rw [← hI.out] at HDJ
      have hll : li.given.length + li.waits.length ≤ 30 := by
        have h1 := HDJ.out.len
        simp only at h1
        omega
      have hkl : K.length ≤ 60 := by
        have h1 := (fold_len (V0.take j) (G0, [], [])).2.2
        rw [← hI.out] at h1
        simp only [List.length_nil, List.length_take] at h1
        omega
      have HST2 : Hid (_ = _) := fold_step dropStep (G0, [], []) V0 zeroG j hlt
      rw [← hI.out] at HST2
      have HWS : Hid (wouldS li.given (V0.getD j zeroG) = wouldZ li.given (V0.getD j zeroG)) := would_same HDJ.out.gg.modes _
      clear hI hcs HDJ
      generalize V0.getD j zeroG = z at *
      obtain ⟨V1, hV1, bz, hbV1, hsV1⟩ := boxes1 wr [.int .i64 z.tx, .int .i64 z.res, .int .i64 z.mode] 37
      have hD1 := hD.below hbV1
      have hod1 := hD1.ord
      have hzl := bz.lt
      have CW := wake_any w2.heap.size w3.heap.size li z V1 (HTT.out _ hD1.low).1 (HTT.out _ hD1.low).2 hD1.lk (by omega) ⟨by omega, by omega⟩
      have HDS : Hid (dropStep (li.given, li.waits, K) z = if (!li.given.any (barsB ⟨z.tx, z.res, wouldZ li.given z⟩) && !li.waits.any (fun h => h.res == z.res)) = true then (giveV li.given z (wouldZ li.given z), li.waits, K ++ [z.tx]) else (li.given, li.waits ++ [z], K)) := by
        rw [Hid, ← HWS.out]; rfl
      have hzwr : wr.heap.size ∉ li.blocks := fun hm => by have := (hD.lk.own.lt hm).2; omega
      clear hsV1 hbV1 hD HWS
      go_upto_region 8 with fail
      rw [hV1.out]
      clear hV1 d0 d1 d2
      have e0 := bz.cell 0 _ rfl
      have e1 := bz.cell 1 _ rfl
      have e2 := bz.cell 2 _ rfl
      go_wp2_with fail
      refine CW.mono ?_
      clear CW e0 e1 e2
      rintro e w6 ⟨r, l', rfl, hr1, hr2, hr3, hr4, hst⟩
      have hrc := hr1 (by omega)
      have hD6 := hD1.step hst
      have bz6 := hst.box bz (by omega) hzwr
      have hz6 := hst.size
      clear hr1 hst hD1 bz hzwr
      cases r
      · have HR : Hid ((l'.given, l'.waits ++ [z], K) = (V0.take (j + 1)).foldl dropStep (G0, [], [])) := by
          rw [Hid, HST2.out, HDS.out, if_neg (by rw [Bool.and_comm]; rw [← hrc]; decide), hr3 rfl, hr4]
        have hlw : l'.waits.length ≤ 30 := by rw [hr4]; omega
        clear hr2 hr3 hr4 hrc HDS HST2
        have hL6 := hD6.lk
        have x1 := hL6.box.cell 1 _ rfl
        obtain ⟨y0, y1, y2, _⟩ := bz6.three
        have hb7 : Below w6.heap.size w6 (w6.alloc (.cells #[.int .i64 z.tx, .int .i64 z.res, .int .i64 z.mode] 37)) := (Below.refl _ _).alloc (Nat.le_refl _) _
        have ho7 := (hL6.below hb7).own.waits
        have hod6 := hD6.ord
        go_wp2_with (at_builtin; refine append_grantsK rfl _ _ rfl w2.heap.size _ l'.aW l'.cW l'.waits rfl ho7 _ _ [z] rfl (readsG_one w6 z _) (fun h => by cases h) (by simp; omega) (by simp; omega) ?_; intro a8 c8 y8 w8 hy8 ho8 hg8 hk8; obtain ⟨⟨f1, f2⟩, W9, hW9, hst9⟩ := LkAt.setW (w := w6) hL6 hb7 ho8 hg8 (fun k hk => by
            rcases hk8 k hk with e | e
            · exact .inl e
            · exact .inr (by have h9 : k = w6.heap.size + 1 := by simpa using e
                             omega)); clear hk8 ho8 hg8)
        rw [hW9.out]
        have e8 := hy8.out
        subst e8
        have hD9 := hD6.step hst9
        go_roundw
        case rel => exact ⟨j + 1, ⟨l'.given, l'.waits ++ [z], l'.aG, l'.cG, a8, c8⟩, aK, cK, K, by omega, by go_num, rfl, HR.out, hD9⟩
        case measure => simp [intOf]; omega
      · have HR : Hid ((l'.given, l'.waits, K ++ [z.tx]) = (V0.take (j + 1)).foldl dropStep (G0, [], [])) := by
          rw [Hid, HST2.out, HDS.out, if_pos (by rw [Bool.and_comm]; exact hrc.symm), hr2 rfl, hr4]
        clear hr2 hr3 hr4 hrc HDS HST2
        have x0 := bz6.cell 0 _ rfl
        have hb7 : Below w6.heap.size w6 (w6.alloc (.cells #[.int .i64 z.tx] 3)) := (Below.refl _ _).alloc (Nat.le_refl _) _
        have hD7 := hD6.below hb7
        have hod6 := hD6.ord
        have ho7 := hD7.own
        go_wp2_with (at_builtin; refine append_intsF rfl _ _ rfl (w.heap.size + 2) _ aK cK K rfl ho7 _ _ [z.tx] rfl (readsI_one w6 z.tx _) (fun h => by cases h) (by simp; omega) (by simp; omega) ?_; intro a8 c8 y8 w8 hy8 ho8 hg8 hk8)
        have hD8 := hD7.push hg8 ho8 hk8
        have e8 := hy8.out
        subst e8
        clear ho8 hg8 hk8
        go_roundw
        case rel => exact ⟨j + 1, l', a8, c8, K ++ [z.tx], by omega, by go_num, rfl, HR.out, hD8⟩
        case measure => simp [intOf]; omega
    · have HE : Hid ((li.given, li.waits, K) = V0.foldl dropStep (G0, [], [])) := by
        have e := hI.out
        rw [List.take_of_length_le (by omega)] at e
        exact e
      have x0 := hD.lk.box.cell 0 _ rfl
      have x1 := hD.lk.box.cell 1 _ rfl
      have bR := hD.res
      have z0 := bR.cell 0 _ rfl
      have z1 := bR.cell 1 _ rfl
      have f0 := bR.frozen 0
      have f1 := bR.frozen 1
      have hwF : Within (w.heap.size + 1) (w.heap.size + 2) wr _ := (within_set wr (w.heap.size + 1) 0 (.slice li.aG li.given.length li.cG) (by omega)).trans (within_set _ (w.heap.size + 1) 1 (.slice li.aW li.waits.length li.cW) (by omega))
      have bF := (bR.set 0 (.slice li.aG li.given.length li.cG)).set 1 (.slice li.aW li.waits.length li.cW)
      simp only [List.set] at bF
      obtain ⟨WF, hWF⟩ : ∃ WF, Hid ((wr.setCell ⟨w.heap.size + 1, 0, none⟩ (.slice li.aG li.given.length li.cG)).setCell ⟨w.heap.size + 1, 1, none⟩ (.slice li.aW li.waits.length li.cW) = WF) := ⟨_, rfl⟩
      rw [hWF.out] at bF hwF
      have HF : Hid (_) := HFIN.out li K aK cK WF HE.out ((hD.lk.own.within hwF (.inr (by omega))).widen (by omega) hwF.size (Nat.le_refl _)) ((hD.own.within hwF (.inr (by omega))).widen (by omega) hwF.size (Nat.le_refl _)) (hD.low.trans (hwF.below (by omega) (by omega)))
      have q0 := bF.cell 0 _ rfl
      have q1 := bF.cell 1 _ rfl
      clear hwF bR hI HE hD
      go_wp2_with fail
      rw [hWF.out]
      refine bodyPost_ret (v := .tuple #[.agg #[.slice li.aG li.given.length li.cG, .slice li.aW li.waits.length li.cW], .slice aK K.length cK]) (by simp [results, Tryd.results21, go_sem, q0, q1]) rfl HF.out
end Go.Proofs.YtekljhabjkmhpaaDoor

/- A search with a stack and marks: what stands of it. -/
namespace Go.Proofs.YtekljhabjkmhpaaDoor

def RelL (Ls : List (List Int)) (x y : Int) : Prop := ∃ n : Nat, n < Ls.length ∧ x = n ∧ y ∈ Ls.getD n []
def seenB (S : List Bool) (x : Int) : Prop := ∃ n : Nat, n < S.length ∧ x = n ∧ S.getD n false = true
def unseen (S : List Bool) : Nat := S.count false
theorem unseen_set : ∀ (S : List Bool) (n : Nat), n < S.length → S.getD n false = false → unseen (S.set n true) + 1 = unseen S := by
  intro S
  induction S with
  | nil => intro n h; simp at h
  | cons a r ih =>
    intro n h h0
    cases n with
    | zero =>
      have e : a = false := by simpa using h0
      subst e
      simp [unseen]
    | succ n =>
      have h1 := ih n (by simpa using h) (by simpa using h0)
      simp only [unseen, List.set_cons_succ, List.count_cons] at h1 ⊢
      omega
theorem unseen_start : unseen (List.replicate 100 false) = 100 := by unfold unseen; rw [List.count_replicate_self]
theorem seen_set {S : List Bool} {n : Nat} (hn : n < S.length) {x : Int} : seenB (S.set n true) x ↔ seenB S x ∨ x = n := by
  constructor
  · rintro ⟨m, hm, rfl, h⟩
    by_cases e : m = n
    · exact .inr (by rw [e])
    · refine .inl ⟨m, by simpa using hm, rfl, ?_⟩
      have : (S.set n true).getD m false = S.getD m false := by simp [List.getD, List.getElem?_set_ne (Ne.symm e)]
      rw [← this]; exact h
  · rintro (⟨m, hm, rfl, h⟩ | rfl)
    · refine ⟨m, by simpa using hm, rfl, ?_⟩
      by_cases e : m = n
      · subst e; simp [List.getD, hn]
      · have : (S.set n true).getD m false = S.getD m false := by simp [List.getD, List.getElem?_set_ne (Ne.symm e)]
        rw [this]; exact h
    · exact ⟨n, by simpa using hn, rfl, by simp [List.getD, hn]⟩

def ClosedB (R : Int → Int → Prop) (tx : Int) (S : List Bool) (x : Int) : Prop := ∀ y, R x y → seenB S y ∧ y ≠ tx
/-- X: who is being looked through. -/
structure Dfs (R : Int → Int → Prop) (tx : Int) (S : List Bool) (T : List Int) (X : Int → Prop) : Prop where
  len : S.length = 100
  stack : ∀ x ∈ T, ReachE R tx x
  marks : ∀ x, seenB S x → ReachE R tx x
  cover : ∀ x, (x = tx ∨ seenB S x) → x ∈ T ∨ X x ∨ ClosedB R tx S x
theorem dfs_start {R : Int → Int → Prop} {tx : Int} : Dfs R tx (List.replicate 100 false) [tx] (fun _ => False) := by
  have hno : ∀ x, ¬ seenB (List.replicate 100 false) x := by
    rintro x ⟨n, hn, _, h⟩
    have e : (List.replicate 100 false).getD n false = false := by
      simp only [List.getD, List.getElem?_replicate]
      split <;> rfl
    rw [e] at h
    cases h
  refine ⟨by simp, fun x hx => ?_, fun x hx => absurd hx (hno x), fun x hx => ?_⟩
  · obtain rfl := List.mem_singleton.1 hx; exact .refl
  · rcases hx with rfl | hx
    · exact .inl (by simp)
    · exact absurd hx (hno x)
theorem dfs_end {R : Int → Int → Prop} {tx : Int} {S : List Bool} (h : Dfs R tx S [] (fun _ => False)) : ¬ BackE R tx := by
  refine back_none (fun x => x = tx ∨ seenB S x) (.inl rfl) (fun y hy z hr => ?_)
  rcases h.cover y hy with h1 | h1 | h1
  · cases h1
  · exact absurd h1 id
  · exact ⟨.inr (h1 z hr).1, (h1 z hr).2⟩
theorem dfs_pop {R : Int → Int → Prop} {tx : Int} {S : List Bool} {T : List Int} {x : Int} (h : Dfs R tx S (T ++ [x]) (fun _ => False)) : Dfs R tx S T (fun z => z = x) ∧ ReachE R tx x := by
  refine ⟨⟨h.len, fun z hz => h.stack z (List.mem_append.2 (.inl hz)), h.marks, fun z hz => ?_⟩, h.stack x (by simp)⟩
  rcases h.cover z hz with h1 | h1 | h1
  · rcases List.mem_append.1 h1 with h2 | h2
    · exact .inl h2
    · exact .inr (.inl (List.mem_singleton.1 h2))
  · exact absurd h1 id
  · exact .inr (.inr h1)
theorem dfs_done {R : Int → Int → Prop} {tx : Int} {S : List Bool} {T : List Int} {x : Int} (h : Dfs R tx S T (fun z => z = x)) (hc : ClosedB R tx S x) : Dfs R tx S T (fun _ => False) := by
  refine ⟨h.len, h.stack, h.marks, fun z hz => ?_⟩
  rcases h.cover z hz with h1 | h1 | h1
  · exact .inl h1
  · rw [h1]; exact .inr (.inr hc)
  · exact .inr (.inr h1)
theorem dfs_push {R : Int → Int → Prop} {tx : Int} {S : List Bool} {T : List Int} {x : Int} (h : Dfs R tx S T (fun z => z = x)) (hx : ReachE R tx x) {n : Nat} (hn : n < 100) (hr : R x n) : Dfs R tx (S.set n true) (T ++ [(n : Int)]) (fun z => z = x) := by
  have hn' : n < S.length := by rw [h.len]; exact hn
  refine ⟨by simp [h.len], fun z hz => ?_, fun z hz => ?_, fun z hz => ?_⟩
  · rcases List.mem_append.1 hz with h1 | h1
    · exact h.stack z h1
    · obtain rfl := List.mem_singleton.1 h1; exact .step hx hr
  · rcases (seen_set hn').1 hz with h1 | rfl
    · exact h.marks z h1
    · exact .step hx hr
  · have cl : ∀ y, ClosedB R tx S y → ClosedB R tx (S.set n true) y := fun y hy v hv => ⟨(seen_set hn').2 (.inl (hy v hv).1), (hy v hv).2⟩
    have : (z = tx ∨ seenB S z) ∨ z = n := by
      rcases hz with rfl | hz
      · exact .inl (.inl rfl)
      · rcases (seen_set hn').1 hz with h1 | h1
        · exact .inl (.inr h1)
        · exact .inr h1
    rcases this with h0 | rfl
    · rcases h.cover z h0 with h1 | h1 | h1
      · exact .inl (List.mem_append.2 (.inl h1))
      · exact .inr (.inl h1)
      · exact .inr (.inr (cl z h1))
    · exact .inl (by simp)
end Go.Proofs.YtekljhabjkmhpaaDoor

/- The walk of impl.comesBack. -/
namespace Go.Proofs.YtekljhabjkmhpaaDoor
open Go.RowKit

theorem OwnI.take {w : World} {lo hi : Nat} {a : Option Addr} {c : Nat} {ns : List Int} (h : OwnI w lo hi a c ns) (k : Nat) (hk : k ≤ ns.length) : OwnI w lo hi a c (ns.take k) := by
  have hl : (ns.take k).length = k := by rw [List.length_take]; omega
  obtain ⟨⟨h1, h2⟩, h3, h4⟩ := h
  refine ⟨⟨by simp, ?_⟩, h3, fun j hj => h4 j (by
    cases a with
    | none => simp [Value.ownBlock] at hj
    | some ad => simpa [Value.ownBlock] using hj)⟩
  rcases h2 with ⟨hv, h0⟩ | ⟨g, cap, cur, hv, hg, hh, hn, hcap, hsz, htake⟩
  · left
    simp only [Value.slice.injEq] at hv
    obtain ⟨rfl, _, rfl⟩ := hv
    have : ns = [] := List.length_eq_zero_iff.1 h0
    subst this
    simp
  · right
    simp only [Value.slice.injEq] at hv
    obtain ⟨rfl, _, rfl⟩ := hv
    refine ⟨g, c, cur, rfl, hg, hh, by omega, hcap, hsz, ?_⟩
    have h5 : (cur.toList.take (ns.length * 1)).take (k * 1) = (ns.map (Value.int .i64)).take (k * 1) := by rw [htake]
    rw [List.take_take, Nat.min_eq_left (by omega)] at h5
    rw [hl, h5, Nat.mul_one, List.map_take]

def TB100 : TypeId := 92
def cellsB (S : List Bool) : List Value := S.map Value.bool
theorem Tryd.zeroB100 : (Tryd.prog.info? 92).map (fun i => i.zero) = some (some (.agg (cellsB (List.replicate 100 false)).toArray)) := by kernel_rfl
set_option maxHeartbeats 1000000 in
set_option maxRecDepth 100000 in
theorem alloc_b100 {w : World} {ops : Array Oper} {rest : List Oper} {dst : Option Nat} {ty : TypeId} {pos : String} {aft : Array Edge} {act : Act} {Q : Exit → Act → World → Prop}
    (h : wpList Tryd.prog ops Q rest (act.put dst (.pointer (some ⟨w.heap.size, 0, none⟩))) (w.alloc (.cells (cellsB (List.replicate 100 false)).toArray TB100))) :
    wpList Tryd.prog ops Q ({ dst := dst, op := .alloc 92, type := ty, pos := pos, after := aft, guard := none } :: rest) act w := by
  refine wpList_plain rfl fun K hK => ?_
  have hz := Tryd.zeroB100
  cases hi : Tryd.prog.info? 92 with
  | none => rw [hi] at hz; cases hz
  | some inf =>
    rw [hi] at hz
    have hz' : inf.zero = some (.agg (cellsB (List.replicate 100 false)).toArray) := by simpa using hz
    obtain ⟨cs, hcs⟩ : ∃ cs, cellsB (List.replicate 100 false) = cs := ⟨_, rfl⟩
    rw [hcs] at hz' h
    unfold Oper.wp execOp
    have e1 : (zeroValue 92).run Tryd.prog w = .ok (.agg cs.toArray) w := by simp [zeroValue, typeInfo, hi, hz']
    have e2 : (Instr.alloc 92 true (.tuple #[])).run Tryd.prog w = .ok (.pointer (some ⟨w.heap.size, 0, none⟩)) (w.alloc (.cells cs.toArray TB100)) := by
      unfold Instr.alloc
      simp only [Sem.run_bind, e1, Result.andThen_ok]
      simp [newVar, go_sem]
      rfl
    simp only [Sem.run_bind, e2, Result.andThen_ok, Sem.run_pure]
    exact hK _ _ h
theorem cellsB_at {S : List Bool} {n : Nat} (h : n < S.length) : (cellsB S)[n]? = some (.bool (S.getD n false)) := by simp [cellsB, List.getD, h]
theorem cellsB_set (S : List Bool) (n : Nat) (b : Bool) : (cellsB S).set n (.bool b) = cellsB (S.set n b) := by simp [cellsB, List.map_set]

/-- A row of lists of numbers, read. -/
def ReadsII (w : World) (b off : Nat) (Ls : List (List Int)) : Prop := ∀ i, i < Ls.length → ∃ ai ci, w.cell? ⟨b, off + i, none⟩ = some (.slice ai (Ls.getD i []).length ci) ∧ ReadsI w ai (Ls.getD i [])
theorem ReadsII.below {w w' : World} {b off : Nat} {Ls : List (List Int)} (h : ReadsII w b off Ls) (hb : Below w.heap.size w w') : ReadsII w' b off Ls := fun i hi => by
  obtain ⟨ai, ci, h1, h2⟩ := h i hi
  exact ⟨ai, ci, (hb.cell (block_lt h1)).trans h1, h2.below hb⟩

set_option maxHeartbeats 4000000 in
set_option maxRecDepth 100000 in
theorem comesBack_any (b off c : Nat) (Ls : List (List Int)) (tx : Nat) (w : World) (hr : ReadsII w b off Ls) (hl : Ls.length = 100) (hin : ∀ i, ∀ y ∈ Ls.getD i [], 0 ≤ y ∧ y ≤ 99) (hlen : ∀ i, (Ls.getD i []).length ≤ 1000) (htx : tx < 100) :
    Calls Tryd.prog 52 #[.slice (some ⟨b, off, none⟩) 100 c, .int .i64 (tx : Int)] w fun e w' => ∃ r : Bool, e = .returned (.bool r) ∧ Hid (r = true ↔ BackE (RelL Ls) tx) ∧ Below w.heap.size w w' := by
  obtain ⟨W, hW, b0, hbW, hsW⟩ := boxes1 w (cellsB (List.replicate 100 false)) TB100
  have hb0 := b0.lt
  have HR : Hid (∀ i, i < 100 → ∃ ai ci, ∀ u, Below w.heap.size w u → u.cell? ⟨b, off + i, none⟩ = some (.slice ai (Ls.getD i []).length ci) ∧ ReadsI u ai (Ls.getD i [])) := fun i hi => by
    obtain ⟨ai, ci, h1, h2⟩ := hr i (by omega)
    exact ⟨ai, ci, fun u h => ⟨(h.cell (block_lt h1)).trans h1, h2.below h⟩⟩
  have HIN : Hid (_) := hin
  have HLN : Hid (_) := hlen
  have HRL : Hid (∀ x y, RelL Ls x y ↔ ∃ n : Nat, n < Ls.length ∧ x = n ∧ y ∈ Ls.getD n []) := fun _ _ => Iff.rfl
  have HD0 : Hid (Dfs (RelL Ls) tx (List.replicate 100 false) [(tx : Int)] (fun _ => False)) := dfs_start
  have HL100 : Hid (Ls.length = 100) := hl
  have ho0 := ownI_lit1 W tx
  have HS0 : Hid (OwnI (W.alloc (.cells #[.int .i64 (tx : Int)] 3)) (w.heap.size + 1) (W.alloc (.cells #[.int .i64 (tx : Int)] 3)).heap.size (some ⟨W.heap.size, 0, none⟩) 1 [(tx : Int)] ∧ Box (W.alloc (.cells #[.int .i64 (tx : Int)] 3)) w.heap.size (cellsB (List.replicate 100 false)) TB100 ∧ Below w.heap.size w (W.alloc (.cells #[.int .i64 (tx : Int)] 3))) :=
    ⟨ho0.widen (by omega) (by simp) (Nat.le_refl _), b0.alloc _, hbW.alloc hbW.size _⟩
  generalize RelL Ls = R at *
  clear hr hin hlen hl ho0 b0 hbW hsW
  go_enter Tryd.func52, Tryd.ntmps52
  go_upto_region 2 with (first | (refine alloc_b100 ?_) | fail)
  rw [hW.out]
  clear hW
  go_wp2_with fail
  go_loopg [6] 201 (fun n o wr => ∃ (a : Option Addr) (c : Nat) (S : List Bool) (T : List Int), o = .slice a T.length c ∧ Hid (Dfs R tx S T (fun _ => False) ∧ 2 * unseen S + T.length ≤ n ∧ ∀ x ∈ T, 0 ≤ x ∧ x ≤ 99) ∧ T.length + unseen S ≤ 101 ∧ OwnI wr (w.heap.size + 1) wr.heap.size a c T ∧ Box wr w.heap.size (cellsB S) TB100 ∧ Below w.heap.size w wr)
  case atStart =>
    refine ⟨_, _, List.replicate 100 false, [(tx : Int)], rfl, ⟨HD0.out, by rw [unseen_start]; simp, fun x hx => ?_⟩, by rw [unseen_start]; simp, HS0.out⟩
    obtain rfl := List.mem_singleton.1 hx
    omega
  case round =>
    obtain ⟨a, c', S, T, rfl, hD, hTl, ho, hbx, hbl⟩ := hrel
    clear HS0 HD0
    rcases List.eq_nil_or_concat T with hT | ⟨T', x, hT⟩
    · have HF : Hid (¬ BackE R tx) := by
        have := hD.out.1
        rw [hT] at this
        exact dfs_end this
      have hT0 : T.length ≤ 0 := by rw [hT]; simp
      have HX := hbl
      clear hD hT
      go_wp2_with fail
      go_ret
      exact ⟨false, rfl, ⟨fun h => (by cases h), fun h => absurd h HF.out⟩, HX⟩
    · rw [List.concat_eq_append] at hT
      subst hT
      obtain ⟨xn, hxe, hx100⟩ : ∃ xn : Nat, x = xn ∧ xn < 100 := by
        have := hD.out.2.2 x (by simp)
        exact ⟨x.toNat, by omega, by omega⟩
      subst hxe
      obtain ⟨bt, offt, rfl, hct⟩ := ho.reads (by simp)
      have t0 := hct T'.length (by simp)
      have e0 : (T' ++ [(xn : Int)]).getD T'.length 0 = xn := by simp [List.getD]
      rw [e0] at t0
      have hox := ho.take T'.length (by simp)
      rw [List.take_left] at hox
      have hcap := ho.len_cap
      have HDP : Hid (Dfs R tx S T' (fun z => z = (xn : Int)) ∧ ReachE R tx xn) := dfs_pop hD.out.1
      have HTE : Hid (∀ z ∈ T', 0 ≤ z ∧ z ≤ 99) := fun z hz => hD.out.2.2 z (List.mem_append.2 (.inl hz))
      have HNM : Hid (2 * unseen S + T'.length < gk) := by
        have := hD.out.2.1
        simp only [List.length_append, List.length_cons, List.length_nil] at this
        rw [Hid]; omega
      obtain ⟨aF, cF, hFu⟩ := HR.out xn hx100
      have HFR : Hid (_) := hFu
      have hF0 := (hFu wr hbl).1
      have HFI : Hid (_) := HIN.out xn
      have HFL := HLN.out xn
      have HFE : Hid (∀ y, R xn y ↔ y ∈ Ls.getD xn []) := fun y => by
        rw [HRL.out]
        constructor
        · rintro ⟨n, _, e, h⟩
          have : xn = n := by omega
          rw [this]; exact h
        · intro h
          exact ⟨xn, by have := HL100.out; omega, rfl, h⟩
      have hTl' : T'.length + 1 + unseen S ≤ 101 := by simp only [List.length_append, List.length_cons, List.length_nil] at hTl; omega
      have hcap' : T'.length + 1 ≤ c' := by simpa using hcap
      clear HR HIN HLN HRL hD hct e0 hTl hcap hFu HL100
      generalize Ls.getD xn [] = F at *
      simp only [List.length_append, List.length_cons, List.length_nil, Nat.zero_add] at ho ⊢
      have hxI : (xn : Int) < 100 := by omega
      have HS1 : Hid (OwnI wr (w.heap.size + 1) wr.heap.size (some ⟨bt, offt, none⟩) c' T' ∧ Box wr w.heap.size (cellsB S) TB100 ∧ Below w.heap.size w wr) := ⟨hox, hbx, hbl⟩
      clear ho hox hbx hbl
      generalize wr = wo at *
      go_wp2_with fail
      go_loopw [6, 31] (fun o i wr => ∃ (n : Nat) (a : Option Addr) (c : Nat) (S' : List Bool) (T : List Int), n ≤ F.length ∧ T.length + 1 + unseen S' ≤ 101 ∧ i = .int .i64 n ∧ o = .slice a T.length c ∧ Hid (Dfs R tx S' T (fun z => z = (xn : Int)) ∧ 2 * unseen S' + T.length < gk ∧ (∀ z ∈ T, 0 ≤ z ∧ z ≤ 99) ∧ (∀ y ∈ F.take n, seenB S' y ∧ y ≠ tx)) ∧ OwnI wr (w.heap.size + 1) wr.heap.size a c T ∧ Box wr w.heap.size (cellsB S') TB100 ∧ Below w.heap.size w wr) (fun _ i _ => F.length - (intOf i).toNat)
      case atStart => exact ⟨0, _, c', S, T', Nat.zero_le _, hTl', rfl, rfl, ⟨HDP.out.1, HNM.out, HTE.out, fun y hy => by simp at hy⟩, HS1.out⟩
      case round =>
        obtain ⟨n, a, c, S', T, hn, hTl, rfl, rfl, hI, ho, hbx, hbl⟩ := hrel
        clear HS1 HTE t0
        by_cases hlt : n < F.length
        · obtain ⟨bf, offf, rfl, hcf⟩ := (HFR.out wr hbl).2 (by intro e; rw [e] at hlt; simp at hlt)
          have f0 := hcf n hlt
          have HTS : Hid (F.take (n + 1) = F.take n ++ [F.getD n 0]) := take_step F 0 n hlt
          obtain ⟨y, hye, hy100⟩ : ∃ y : Nat, F.getD n 0 = y ∧ y < 100 := by
            have := HFI.out _ (mem_getD hlt 0)
            exact ⟨(F.getD n 0).toNat, by omega, by omega⟩
          have HRY : Hid (R xn y) := (HFE.out y).2 (by rw [← hye]; exact mem_getD hlt 0)
          rw [hye] at f0 HTS
          clear hcf hye
          have hyI : (y : Int) < 100 := by omega
          by_cases qy : y = tx
          · have HT : Hid (BackE R tx) := ⟨xn, HDP.out.2, by rw [← qy]; exact HRY.out⟩
            have HX := hbl
            clear hI HTS HRY HDP HFI HFE HFR HNM
            subst qy
            go_wp2_with fail
            go_ret
            exact ⟨true, rfl, ⟨fun _ => HT.out, fun _ => rfl⟩, HX⟩
          · have hqI : ¬ (y : Int) = (tx : Int) := by omega
            have hlS : S'.length = 100 := hI.out.1.len
            have s0 := hbx.cell y _ (cellsB_at (by omega))
            have sf := hbx.frozen y
            have HSN : Hid (S'.getD y false = true → ∀ z ∈ F.take (n + 1), seenB S' z ∧ z ≠ tx) := fun h z hz => by
              rw [HTS.out] at hz
              rcases List.mem_append.1 hz with hz | hz
              · exact hI.out.2.2.2 z hz
              · obtain rfl := List.mem_singleton.1 hz
                exact ⟨⟨y, by omega, rfl, h⟩, hqI⟩
            cases hsy : S'.getD y false
            · rw [hsy] at s0
              have HP : Hid (Dfs R tx (S'.set y true) (T ++ [(y : Int)]) (fun z => z = (xn : Int)) ∧ 2 * unseen (S'.set y true) + (T ++ [(y : Int)]).length < gk ∧ (∀ z ∈ T ++ [(y : Int)], 0 ≤ z ∧ z ≤ 99) ∧ (∀ z ∈ F.take (n + 1), seenB (S'.set y true) z ∧ z ≠ tx)) := by
                have hu := unseen_set S' y (by omega) hsy
                have h2 := hI.out.2.1
                refine ⟨dfs_push hI.out.1 HDP.out.2 hy100 HRY.out, by simp only [List.length_append, List.length_cons, List.length_nil]; omega, fun z hz => ?_, fun z hz => ?_⟩
                · rcases List.mem_append.1 hz with hz | hz
                  · exact hI.out.2.2.1 z hz
                  · obtain rfl := List.mem_singleton.1 hz; omega
                · rw [HTS.out] at hz
                  rcases List.mem_append.1 hz with hz | hz
                  · obtain ⟨h3, h4⟩ := hI.out.2.2.2 z hz
                    exact ⟨(seen_set (by omega)).2 (.inl h3), h4⟩
                  · obtain rfl := List.mem_singleton.1 hz
                    exact ⟨(seen_set (by omega)).2 (.inr rfl), hqI⟩
              have HTN : Hid (T.length + 1 + 1 + unseen (S'.set y true) ≤ 101) := by
                have hu := unseen_set S' y (by omega) hsy
                rw [Hid]; omega
              obtain ⟨W2, hW2, b2, hw2, hs2⟩ := box_set hbx y (.bool true)
              rw [cellsB_set] at b2
              have ho2 := ho.within hw2 (.inr (by omega))
              have hB2 : Below w.heap.size w W2 := hbl.trans (hw2.below (Nat.le_refl _) (by have := hbl.size; omega))
              have ho3 := ho2.below ((Below.refl _ _).alloc (Nat.le_refl _) (.cells #[.int .i64 (y : Int)] 3))
              have b3 := b2.alloc (.cells #[.int .i64 (y : Int)] 3)
              have hlw := b2.lt
              clear hI HTS HRY HSN hsy hw2
              go_upto_region 14 with fail
              rw [hW2.out]
              clear hW2 hs2
              go_wp2_with (at_builtin; refine append_intsF rfl _ _ rfl (w.heap.size + 1) wr.heap.size a c T rfl ho3 _ _ [(y : Int)] rfl (readsI_one W2 y _) (fun h => by cases h) (by simp; omega) (by simp; omega) ?_; intro a4 c4 y4 w4 hy4 ho4 hg4 hk4)
              go_roundw
              case rel =>
                have e4 := hy4.out
                subst e4
                refine ⟨n + 1, a4, c4, S'.set y true, _, by omega, by have := HTN.out; simp only [List.length_append, List.length_cons, List.length_nil]; omega, by go_num, rfl, HP.out, ho4, b3.block (hg4.block _ b3.lt (fun e => by have := (ho2.lt _ e.symm).1; omega)), below_append hB2 hg4 (fun q hq => by have := (ho2.lt q hq).1; omega) (by omega)⟩
              case measure => simp [intOf]; omega
            · rw [hsy] at s0
              have HN2 : Hid (_) := HSN.out hsy
              have HI2 : Hid (_ ∧ _ ∧ _) := ⟨hI.out.1, hI.out.2.1, hI.out.2.2.1⟩
              clear hI HTS HRY HSN hsy
              go_wp2_with fail
              go_roundw
              case rel => exact ⟨n + 1, _, c, S', T, by omega, hTl, by go_num, rfl, ⟨HI2.out.1, HI2.out.2.1, HI2.out.2.2, HN2.out⟩, ho, hbx, hbl⟩
              case measure => simp [intOf]; omega
        · have HK : Hid (Dfs R tx S' T (fun _ => False)) := dfs_done hI.out.1 (fun y hy => hI.out.2.2.2 y (by rw [List.take_of_length_le (by omega)]; exact (HFE.out y).1 hy))
          have HM : Hid (2 * unseen S' + T.length < gk ∧ ∀ z ∈ T, 0 ≤ z ∧ z ≤ 99) := ⟨hI.out.2.1, hI.out.2.2.1⟩
          clear hI HFE HFR HFI HDP HNM
          go_wp2_with fail
          go_roundg (2 * unseen S' + T.length)
          case rel => exact ⟨a, c, S', T, rfl, ⟨HK.out, Nat.le_refl _, HM.out.2⟩, by omega, ho, hbx, hbl⟩
          case measure => exact HM.out.1
end Go.Proofs.YtekljhabjkmhpaaDoor

/- The walk of (*impl.Locks).waitedFor. -/
namespace Go.Proofs.YtekljhabjkmhpaaDoor
open Go.RowKit

set_option maxHeartbeats 4000000 in
set_option maxRecDepth 100000 in
theorem waitedFor_any (B : Nat) (G V : List GrantV) (aG : Option Addr) (cG : Nat) (aW : Option Addr) (cW : Nat) (k : Nat) (w : World) (hTG : TabGo w) (hTB : TabBoth w)
    (hB0 : w.cell? ⟨B, 0, none⟩ = some (.slice aG G.length cG)) (hB1 : w.cell? ⟨B, 1, none⟩ = some (.slice aW V.length cW)) (hG : ReadsG w aG G) (hV : ReadsG w aW V) (hlG : G.length ≤ 1000) (hlV : V.length ≤ 1000) (hcW : V.length ≤ cW) (hk : k < V.length) :
    Calls Tryd.prog 51 #[.pointer (some ⟨B, 0, none⟩), .int .i64 (k : Int)] w fun e w' => ∃ a c, e = .returned (.slice a (forL G V k).length c) ∧ OwnI w' w.heap.size w'.heap.size a c (forL G V k) ∧ Below w.heap.size w w' := by
  have HFL : Hid (forL G V k = (G.filter (barsB ⟨(V.getD k zeroG).tx, (V.getD k zeroG).res, wouldZ G (V.getD k zeroG)⟩)).map (·.tx) ++ ((V.take k).filter (fun h => h.res == (V.getD k zeroG).res)).map (·.tx)) := rfl
  generalize forL G V k = FL at *
  have hBl : B < w.heap.size := block_lt hB0
  have HCG : Hid (∀ w', Below w.heap.size w w' → ∀ k, k < G.length → ∃ b off, aG = some ⟨b, off, none⟩ ∧ w'.cell? ⟨b, off + k * 3, none⟩ = some (.int .i64 (G.getD k zeroG).tx) ∧ w'.cell? ⟨b, off + k * 3 + 1, none⟩ = some (.int .i64 (G.getD k zeroG).res) ∧ w'.cell? ⟨b, off + k * 3 + 2, none⟩ = some (.int .i64 (G.getD k zeroG).mode)) := fun w' h k hk => by
    obtain ⟨b, off, ha, hc⟩ := (hG.below h) (by intro e; rw [e] at hk; simp at hk)
    exact ⟨b, off, ha, hc k hk⟩
  have HCV : Hid (∀ w', Below w.heap.size w w' → ∀ k, k < V.length → ∃ b off, aW = some ⟨b, off, none⟩ ∧ w'.cell? ⟨b, off + k * 3, none⟩ = some (.int .i64 (V.getD k zeroG).tx) ∧ w'.cell? ⟨b, off + k * 3 + 1, none⟩ = some (.int .i64 (V.getD k zeroG).res) ∧ w'.cell? ⟨b, off + k * 3 + 2, none⟩ = some (.int .i64 (V.getD k zeroG).mode)) := fun w' h k hk => by
    obtain ⟨b, off, ha, hc⟩ := (hV.below h) (by intro e; rw [e] at hk; simp at hk)
    exact ⟨b, off, ha, hc k hk⟩
  have HBB : Hid (∀ u, Below w.heap.size w u → u.cell? ⟨B, 0, none⟩ = some (.slice aG G.length cG) ∧ u.cell? ⟨B, 1, none⟩ = some (.slice aW V.length cW)) := fun u h => ⟨(h.cell hBl).trans hB0, (h.cell hBl).trans hB1⟩
  have HTG : Hid (∀ u, Below w.heap.size w u → TabGo u) := fun u h => hTG.keep h
  obtain ⟨b, off, rfl, d0, d1, d2⟩ := HCV.out w (Below.refl _ _) k hk
  generalize V.getD k zeroG = z at *
  have C := wouldHave_any B G aG cG z w hTB hB0 hG (by omega)
  have hk0 : (k : Int) < (V.length : Int) := by omega
  have hkc : k ≤ cW := by omega
  clear hG hV hTG hTB
  go_enter Tryd.func51, Tryd.ntmps51
  go_wp2_with fail
  refine C.mono ?_
  clear C
  generalize wouldZ G z = m at *
  rintro e w1 ⟨rfl, hb1⟩
  generalize placeZ (atB z.tx z.res) G = pl at *
  obtain ⟨V1, hV1, bz, hbV1, hsV1⟩ := boxes1 w1 [.int .i64 z.tx, .int .i64 z.res, .int .i64 m] 37
  have hB1' : Below w.heap.size w V1 := hb1.trans (hbV1.mono hb1.size)
  have HBZ : Hid (∀ u, Below V1.heap.size V1 u → Box u w1.heap.size [.int .i64 z.tx, .int .i64 z.res, .int .i64 m] 37) := fun u h => bz.below h bz.lt
  have hs1 : w1.heap.size < V1.heap.size := bz.lt
  have hs2 : w.heap.size ≤ w1.heap.size := hb1.size
  obtain ⟨y0, y1⟩ := HBB.out _ hB1'
  have hBw1 : B < w1.heap.size := by omega
  have HB1' : Hid (∀ u, Below V1.heap.size V1 u → Below w.heap.size w u) := fun u h => hB1'.trans (h.mono hB1'.size)
  clear d0 d1 d2 bz hb1 hbV1 hsV1 hB0 hB1
  go_upto_region 3 with fail
  rw [hV1.out]
  clear hV1
  go_wp2_with fail
  clear y0 y1
  go_loopw [5, 29] (fun o i wr => ∃ (j : Nat) (a : Option Addr) (c : Nat) (L : List Int), j ≤ G.length ∧ i = .int .i64 j ∧ o = .slice a L.length c ∧ Hid (L = ((G.take j).filter (barsB ⟨z.tx, z.res, m⟩)).map (·.tx)) ∧ L.length ≤ j ∧ OwnI wr V1.heap.size wr.heap.size a c L ∧ Below V1.heap.size V1 wr) (fun _ i _ => G.length - (intOf i).toNat)
  case atStart => exact ⟨0, none, 0, [], Nat.zero_le _, rfl, rfl, rfl, Nat.zero_le _, ownI_nil _ _ _ (Nat.le_refl _), Below.refl _ _⟩
  case round =>
    obtain ⟨j, a, c, L, hj, rfl, rfl, hL, hLj, ho, hbl⟩ := hrel
    have hBW := HB1'.out _ hbl
    have hls := hbl.size
    by_cases hlt : j < G.length
    · obtain ⟨b', off', rfl, d0, d1, d2⟩ := HCG.out wr hBW j hlt
      have HST : Hid (_ = _) := filter_step (barsB ⟨z.tx, z.res, m⟩) (fun g : GrantV => g.tx) G zeroG j hlt
      clear HCG HCV HFL
      generalize G.getD j zeroG = h at *
      have HNO : Hid (barsB ⟨z.tx, z.res, m⟩ h = false → L = ((G.take (j + 1)).filter (barsB ⟨z.tx, z.res, m⟩)).map (·.tx)) := fun q => by rw [HST.out, if_neg (by rw [q]; decide)]; exact hL.out
      have HYE : Hid (barsB ⟨z.tx, z.res, m⟩ h = true → L ++ [h.tx] = ((G.take (j + 1)).filter (barsB ⟨z.tx, z.res, m⟩)).map (·.tx)) := fun q => by rw [HST.out, if_pos q, ← hL.out]
      clear HST hL
      have bzr := HBZ.out _ hbl
      obtain ⟨e0, e1, e2, _⟩ := bzr.three
      have hzl := bzr.lt
      clear bzr
      obtain ⟨V2, hV2, bh, hbV2, hsV2⟩ := boxes1 wr [.int .i64 h.tx, .int .i64 h.res, .int .i64 h.mode] 37
      have hB2 : Below V1.heap.size V1 V2 := hbl.trans (hbV2.mono hbl.size)
      have ho2 := (ho.below hbV2).widen (Nat.le_refl _) hbV2.size (Nat.le_refl _)
      have C := bars_any h ⟨z.tx, z.res, m⟩ V2 (HTG.out _ (HB1'.out _ hB2))
      simp only at C
      clear hsV2 hbV2
      go_wp2_with fail
      rw [hV2.out]
      refine C.mono ?_
      clear C hV2
      generalize barsB ⟨z.tx, z.res, m⟩ h = bb at *
      rintro e w2 ⟨rfl, hb2⟩
      have x0 := (bh.below hb2 bh.lt).cell 0 _ rfl
      have hB3 : Below V1.heap.size V1 w2 := hB2.trans (hb2.mono hB2.size)
      have ho3 := (ho2.below hb2).widen (Nat.le_refl _) hb2.size (Nat.le_refl _)
      have hl3 := hB3.size
      clear bh ho2 hB2 hb2 d0 d1 d2 e0 e1 e2
      cases bb
      · have HR : Hid _ := HNO.out rfl
        go_wp2_with fail
        go_roundw
        case rel => exact ⟨j + 1, a, c, L, by omega, by go_num, rfl, HR.out, by omega, ho3, hB3⟩
        case measure => simp [intOf]; omega
      · have HR : Hid _ := HYE.out rfl
        have ho4 := ho3.below ((Below.refl _ _).alloc (Nat.le_refl _) (.cells #[.int .i64 h.tx] 3))
        go_wp2_with (at_builtin; refine append_ints rfl _ _ rfl V1.heap.size w2.heap.size a c L rfl ho4 _ _ [h.tx] rfl (readsI_one w2 h.tx _) (fun h => by cases h) (by simp; omega) (by simp; omega) ?_; intro a5 c5 y5 w5 hy5 ho5 hg5)
        go_roundw
        case rel => exact ⟨j + 1, a5, c5, y5, by omega, by go_num, rfl, by rw [Hid, hy5.out]; exact HR.out, by rw [hy5.out]; simp; omega, ho5, below_append hB3 hg5 (fun k hk => (ho3.lt k hk).1) hB3.size⟩
        case measure => simp [intOf]; omega
    · have HL : Hid (L = (G.filter (barsB ⟨z.tx, z.res, m⟩)).map (·.tx)) := by
        have e := hL.out
        rw [List.take_of_length_le (by omega)] at e
        exact e
      have HLL : Hid (L.length ≤ G.length) := by rw [Hid]; omega
      have HS0 : Hid (OwnI wr V1.heap.size wr.heap.size a c L ∧ Below V1.heap.size V1 wr) := ⟨ho, hbl⟩
      obtain ⟨y0, y1⟩ := HBB.out _ hBW
      clear hL hLj HCG ho hbl
      generalize wr = wo at *
      go_wp2_with fail
      go_loopw [5, 49] (fun o i wr => ∃ (j : Nat) (a : Option Addr) (c : Nat) (M : List Int), j ≤ k ∧ i = .int .i64 j ∧ o = .slice a M.length c ∧ Hid (M = L ++ ((V.take j).filter (fun h => h.res == z.res)).map (·.tx)) ∧ M.length ≤ G.length + j ∧ OwnI wr V1.heap.size wr.heap.size a c M ∧ Below V1.heap.size V1 wr) (fun _ i _ => k - (intOf i).toNat)
      case atStart => exact ⟨0, _, _, L, Nat.zero_le _, rfl, rfl, by simp [Hid], by have := HLL.out; omega, HS0.out.1, HS0.out.2⟩
      case round =>
        clear hBW y0 y1 hls hlt
        obtain ⟨j, a, c, M, hj, rfl, rfl, hM, hMj, ho, hbl⟩ := hrel
        have hBW := HB1'.out _ hbl
        have hls := hbl.size
        by_cases hlt : j < k
        · obtain ⟨b', off', hh, d0, d1, d2⟩ := HCV.out wr hBW j (by omega)
          cases hh
          have HST : Hid (_ = _) := filter_step (fun h : GrantV => h.res == z.res) (fun g : GrantV => g.tx) V zeroG j (by omega)
          clear HCV HFL
          generalize V.getD j zeroG = h at *
          have HNO : Hid ((h.res == z.res) = false → M = L ++ ((V.take (j + 1)).filter (fun h => h.res == z.res)).map (·.tx)) := fun q => by rw [HST.out, if_neg (by rw [q]; decide)]; exact hM.out
          have HYE : Hid ((h.res == z.res) = true → M ++ [h.tx] = L ++ ((V.take (j + 1)).filter (fun h => h.res == z.res)).map (·.tx)) := fun q => by rw [HST.out, if_pos q, hM.out, List.append_assoc]
          clear HST hM
          have bzr := HBZ.out _ hbl
          have e1 := bzr.cell 1 _ rfl
          have hzl := bzr.lt
          clear bzr
          obtain ⟨V2, hV2, bh, hbV2, hsV2⟩ := boxes1 wr [.int .i64 h.tx, .int .i64 h.res, .int .i64 h.mode] 37
          have hB2 : Below V1.heap.size V1 V2 := hbl.trans (hbV2.mono hbl.size)
          have ho2 := (ho.below hbV2).widen (Nat.le_refl _) hbV2.size (Nat.le_refl _)
          have HV2 : Hid (_ = V2) := hV2
          have x0 := bh.cell 0 _ rfl
          have hl2 := hB2.size
          clear hsV2 hbV2 bh
          by_cases q1 : h.res = z.res
          · have HR : Hid _ := HYE.out (by simp [q1])
            have ho4 := ho2.below ((Below.refl _ _).alloc (Nat.le_refl _) (.cells #[.int .i64 h.tx] 3))
            obtain ⟨htx, hres, hmode⟩ := h
            simp only at *
            subst q1
            go_upto_region 13 with fail
            rw [HV2.out]
            clear hV2 HV2
            go_wp2_with (at_builtin; refine append_ints rfl _ _ rfl V1.heap.size V2.heap.size a c M rfl ho4 _ _ [htx] rfl (readsI_one V2 htx _) (fun h => by cases h) (by simp; omega) (by simp; omega) ?_; intro a5 c5 y5 w5 hy5 ho5 hg5)
            go_roundw
            case rel => exact ⟨j + 1, a5, c5, y5, by omega, by go_num, rfl, by rw [Hid, hy5.out]; exact HR.out, by rw [hy5.out]; simp; omega, ho5, below_append hB2 hg5 (fun k hk => (ho2.lt k hk).1) hB2.size⟩
            case measure => simp [intOf]; omega
          · have HR : Hid _ := HNO.out (by simp [q1])
            have HS : Hid (_ ∧ _) := ⟨ho2, hB2⟩
            clear ho2 hB2
            go_wp2_with fail
            rw [HV2.out]
            go_roundw
            case rel => exact ⟨j + 1, a, c, M, by omega, by go_num, rfl, HR.out, by omega, HS.out.1, HS.out.2⟩
            case measure => simp [intOf]; omega
        · have HF : Hid (M = FL) := by
            have e : j = k := by omega
            have e2 := hM.out
            rw [e, HL.out] at e2
            rw [Hid, HFL.out]
            exact e2
          have HX := hBW
          clear hM HFL
          go_wp2_with fail
          go_ret
          have e := HF.out
          subst e
          exact ⟨a, c, rfl, ho.widen (by omega) (Nat.le_refl _) (Nat.le_refl _), HX⟩
end Go.Proofs.YtekljhabjkmhpaaDoor
