/- Several texts in one, in their order. -/
import Derived.Test.YtekljhabjkmhpaaDoorPFnDroppedx10
/- The walk of spec.l9Back. -/
namespace Go.Proofs.YtekljhabjkmhpaaDoor
open Go.RowKit

theorem append_intsF {w : World} {ops : Array Oper} {rest : List Oper} {o : Oper} {act : Act} {Q : Exit → Act → World → Prop} (hgd : o.guard = none) (s x : Operand)
    (ho : o.op = .call { callee := .builtin .append, args := #[s, x], argTypes := #[40, 40] })
    (lo hi : Nat) (a : Option Addr) (c : Nat) (xs : List Int) (hs : act.eval s = .slice a xs.length c) (hown : OwnI w lo hi a c xs)
    (sa : Option Addr) (sc : Nat) (zs : List Int) (hx : act.eval x = .slice sa zs.length sc) (hr : ReadsI w sa zs) (hc : sa = none → sc = 0)
    (hb : xs.length + zs.length ≤ 1099511627776) (hlo : lo ≤ w.heap.size)
    (h : ∀ a' c' ys w', Hid (ys = xs ++ zs) → OwnI w' lo w'.heap.size a' c' ys → w.grownBy w' (Value.slice a xs.length c).ownBlock → (∀ k, (Value.slice a' ys.length c').ownBlock = some k → (Value.slice a xs.length c).ownBlock = some k ∨ k = w.heap.size) → wpList Tryd.prog ops Q rest (act.put o.dst (.slice a' ys.length c')) w') :
    wpList Tryd.prog ops Q (o :: rest) act w := by
  obtain ⟨a', c', ys, w', hrun, h1, h2, h3, h4⟩ := run_append_ints (w := w) o.type lo hi a c xs hown sa sc zs hr hc hb hlo
  refine wpList_plain hgd fun K hK => ?_
  unfold Oper.wp execOp
  simp only [ho, resolve, invoke, builtin, Sem.run_bind, Sem.run_pure, Result.andThen_ok, List.map_toArray, List.map_cons, List.map_nil, hs, hx, hrun]
  exact hK _ _ (h a' c' ys w' h1 h2 h3 h4)
theorem ownI_lit1 (w : World) (n : Int) : OwnI (w.alloc (.cells #[.int .i64 n] 3)) w.heap.size (w.heap.size + 1) (some ⟨w.heap.size, 0, none⟩) 1 [n] :=
  ⟨World.ownsRow_lit w #[.int .i64 n] 1 (Nat.le_refl _) (by simp [maxLen]) rfl, by simp, fun k hk => by cases hk; simp⟩

/-- What stands of a search from tx: those that were met, of whom the first i were looked through. -/
structure MetI (R : Int → Int → Prop) (tx : Int) (M : List Int) (i : Nat) : Prop where
  nodup : M.Nodup
  self : tx ∈ M
  each : ∀ x ∈ M, ReachE R tx x ∧ 1 ≤ x ∧ x ≤ 99
  done : ∀ j, j < i → ∀ y, R (M.getD j 0) y → y ∈ M ∧ y ≠ tx
theorem MetI.few {R : Int → Int → Prop} {tx : Int} {M : List Int} {i : Nat} (h : MetI R tx M i) : M.length ≤ 99 := Go.Proofs.YtekljhabjkmhpaaDoor.few h.nodup (fun x hx => (h.each x hx).2)
theorem met_start {R : Int → Int → Prop} {tx : Int} (h : 1 ≤ tx ∧ tx ≤ 99) : MetI R tx [tx] 0 :=
  ⟨by simp, by simp, fun x hx => by obtain rfl := List.mem_singleton.1 hx; exact ⟨.refl, h⟩, fun j hj => by omega⟩
theorem met_end {R : Int → Int → Prop} {tx : Int} {M : List Int} {i : Nat} (h : MetI R tx M i) (hi : M.length ≤ i) : ¬ BackE R tx := by
  refine back_none (fun x => x ∈ M) h.self (fun y hy z hr => ?_)
  obtain ⟨j, hj, rfl⟩ := getD_of_mem 0 hy
  exact h.done j (by omega) z hr
theorem met_hit {R : Int → Int → Prop} {tx : Int} {M : List Int} {i : Nat} (h : MetI R tx M i) {x : Int} (hx : x ∈ M) (hr : R x tx) : BackE R tx := ⟨x, (h.each x hx).1, hr⟩
theorem met_push {R : Int → Int → Prop} {tx : Int} {M : List Int} {i : Nat} (h : MetI R tx M i) (hi : i ≤ M.length) {x y : Int} (hx : x ∈ M) (hr : R x y) (hy : y ∉ M) (hin : 1 ≤ y ∧ y ≤ 99) : MetI R tx (M ++ [y]) i := by
  refine ⟨?_, by simp [h.self], fun z hz => ?_, fun j hj z hz => ?_⟩
  · rw [List.nodup_append]
    exact ⟨h.nodup, by simp, fun a ha b hb => by obtain rfl := List.mem_singleton.1 hb; exact fun e => hy (e ▸ ha)⟩
  · rcases List.mem_append.1 hz with hz | hz
    · exact h.each z hz
    · obtain rfl := List.mem_singleton.1 hz
      exact ⟨.step (h.each x hx).1 hr, hin⟩
  · have e : (M ++ [y]).getD j 0 = M.getD j 0 := by simp [List.getD, List.getElem?_append_left (show j < M.length by omega)]
    rw [e] at hz
    obtain ⟨h1, h2⟩ := h.done j hj z hz
    exact ⟨List.mem_append.2 (.inl h1), h2⟩
theorem met_next {R : Int → Int → Prop} {tx : Int} {M : List Int} {i : Nat} (h : MetI R tx M i) (hn : ∀ y, R (M.getD i 0) y → y ∈ M ∧ y ≠ tx) : MetI R tx M (i + 1) :=
  ⟨h.nodup, h.self, h.each, fun j hj => by
    by_cases e : j < i
    · exact h.done j e
    · obtain rfl : j = i := by omega
      exact hn⟩

set_option maxHeartbeats 4000000 in
set_option maxRecDepth 100000 in
theorem l9Back_any (G V : List GrantV) (aG : Option Addr) (cG : Nat) (aW : Option Addr) (cW : Nat) (tx : Int) (w : World) (hG : ReadsG w aG G) (hV : ReadsG w aW V) (hR : Right G V) (htx : 1 ≤ tx ∧ tx ≤ 99) :
    Calls Tryd.prog 53 #[.agg #[.slice aG G.length cG, .slice aW V.length cW], .int .i64 tx] w fun e w' => ∃ r : Bool, e = .returned (.bool r) ∧ Hid (r = true ↔ BackE (EdgeL G V) tx) ∧ Below w.heap.size w w' := by
  obtain ⟨W, hW, b0, hbW, hsW⟩ := boxes1 w [.slice aG G.length cG, .slice aW V.length cW] 30
  have hb0 := b0.lt
  have HB : Hid (∀ w', Below W.heap.size W w' → Below w.heap.size w w') := fun w' h => hbW.trans (h.mono hbW.size)
  have hGW := hG.below hbW
  have hVW := hV.below hbW
  have HBW : Hid (∀ u, Below W.heap.size W u → Box u w.heap.size [.slice aG G.length cG, .slice aW V.length cW] 30) := fun u h => Box.below b0 h hb0
  have HCV : Hid (∀ w', Below W.heap.size W w' → ∀ k, k < V.length → ∃ b off, aW = some ⟨b, off, none⟩ ∧ w'.cell? ⟨b, off + k * 3, none⟩ = some (.int .i64 (V.getD k zeroG).tx)) := fun w' h k hk => by
    obtain ⟨b, off, ha, hc⟩ := (hVW.below h) (by intro e; rw [e] at hk; simp at hk)
    exact ⟨b, off, ha, (hc k hk).1⟩
  have HCF : Hid (∀ u, Below W.heap.size W u → ∀ k, k < V.length → Calls Tryd.prog 70 #[.agg #[.slice aG G.length cG, .slice aW V.length cW], .int .i64 (k : Int)] u fun e w' => ∃ a c, e = .returned (.slice a (forL G V k).length c) ∧ OwnI w' u.heap.size w'.heap.size a c (forL G V k) ∧ Below u.heap.size u w') := fun u h k hk => l9For_any G V aG cG aW cW k u (hGW.below h) (hVW.below h) (by have := hR.lg; omega) (by have := hR.lw; omega) hk hR.modes
  have HFI : Hid (∀ k, ∀ y ∈ forL G V k, 1 ≤ y ∧ y ≤ 99) := forL_in hR
  have HFN : Hid (∀ k, (forL G V k).length ≤ 120) := fun k => by have := forL_len G V k; have := hR.lg; have := hR.lw; omega
  have hlV : V.length ≤ 60 := hR.lw
  have HED : Hid (∀ x y, EdgeL G V x y ↔ ∃ k, k < V.length ∧ (V.getD k zeroG).tx = x ∧ y ∈ forL G V k) := fun _ _ => Iff.rfl
  have HM0 : Hid (MetI (EdgeL G V) tx [tx] 0) := met_start htx
  clear hG hV hGW hVW hbW hsW hR
  generalize EdgeL G V = R at *
  have ho1 := ownI_lit1 W tx
  have hbM : Below W.heap.size W (W.alloc (.cells #[.int .i64 tx] 3)) := (Below.refl _ _).alloc (Nat.le_refl _) _
  have HS : Hid (_ ∧ _) := ⟨ho1, hbM⟩
  clear ho1 hbM
  go_enter Tryd.func53, Tryd.ntmps53
  go_upto_region 1 with fail
  rw [hW.out]
  clear hW
  go_wp2_with fail
  go_loopw [5, 6] (fun o i wr => ∃ (j : Nat) (a : Option Addr) (c : Nat) (M : List Int), j ≤ M.length ∧ M.length ≤ 99 ∧ i = .int .i64 j ∧ o = .slice a M.length c ∧ Hid (MetI R tx M j) ∧ OwnI wr W.heap.size wr.heap.size a c M ∧ Below W.heap.size W wr) (fun _ i _ => 100 - (intOf i).toNat)
  case atStart => exact ⟨0, _, _, [tx], Nat.zero_le _, by simp, rfl, rfl, HM0.out, HS.out.1.widen (Nat.le_refl _) (by simp) (Nat.le_refl _), HS.out.2⟩
  case round =>
    obtain ⟨j, a, c, M, hj, hM99, rfl, rfl, hM, ho, hbl⟩ := hrel
    clear HS HM0
    by_cases hlt : j < M.length
    · have HJ : Hid (M.getD j 0 ∈ M) := mem_getD hlt 0
      have HX : Hid (∃ x, M.getD j 0 = x) := ⟨_, rfl⟩
      obtain ⟨x, hx⟩ := HX.out
      have HXM : Hid (M.getD j 0 = x ∧ j < M.length ∧ x ∈ M) := ⟨hx, hlt, by rw [← hx]; exact HJ.out⟩
      clear hx HJ HX
      have HS0 : Hid (OwnI wr W.heap.size wr.heap.size a c M ∧ Below W.heap.size W wr) := ⟨ho, hbl⟩
      clear ho hbl
      generalize wr = wo at *
      go_wp2_with fail
      go_loopw [5, 7] (fun o i wr => ∃ (k : Nat) (a : Option Addr) (c : Nat) (M : List Int), k ≤ V.length ∧ M.length ≤ 99 ∧ j < M.length ∧ i = .int .i64 k ∧ o = .slice a M.length c ∧ Hid (MetI R tx M j ∧ (M.getD j 0 = x ∧ x ∈ M) ∧ ∀ k', k' < k → (V.getD k' zeroG).tx = x → ∀ y ∈ forL G V k', y ∈ M ∧ y ≠ tx) ∧ OwnI wr W.heap.size wr.heap.size a c M ∧ Below W.heap.size W wr) (fun _ i _ => V.length - (intOf i).toNat)
      case atStart => exact ⟨0, a, c, M, Nat.zero_le _, hM99, hlt, rfl, rfl, ⟨hM.out, ⟨HXM.out.1, HXM.out.2.2⟩, fun k' h => by omega⟩, HS0.out.1, HS0.out.2⟩
      case round =>
        clear HS0 HXM hM hM99 hj hlt
        obtain ⟨k, a, c, M, hk, hM99, hjM, rfl, rfl, hM, ho, hbl⟩ := hrel
        have y1 := (HBW.out _ hbl).cell 1 _ rfl
        have y0 := (HBW.out _ hbl).cell 0 _ rfl
        by_cases hlt : k < V.length
        · obtain ⟨b, off, rfl, d0⟩ := HCV.out wr hbl k hlt
          obtain ⟨bm, offm, rfl, hcm⟩ := ho.reads (by intro e; rw [e] at hjM; simp at hjM)
          have m0 := hcm j hjM
          rw [hM.out.2.1.1] at m0
          have HZ : Hid (∃ t, (V.getD k zeroG).tx = t) := ⟨_, rfl⟩
          obtain ⟨t, ht⟩ := HZ.out
          have HT : Hid ((V.getD k zeroG).tx = t) := ht
          rw [ht] at d0
          clear ht HZ
          by_cases q : t = x
          · subst q
            have qb : (t != t) = false := by simp
            have HCK : Hid (_) := fun u hu => HCF.out u hu k hlt
            have HFk : Hid (_) := HFI.out k
            have HFn := HFN.out k
            have HEk : Hid (∀ y ∈ forL G V k, R t y) := fun y hy => (HED.out t y).2 ⟨k, hlt, HT.out, hy⟩
            have HNK : Hid (∀ M' : List Int, (∀ z ∈ M, z ∈ M') → (∀ y ∈ forL G V k, y ∈ M' ∧ y ≠ tx) → ∀ k', k' < k + 1 → (V.getD k' zeroG).tx = t → ∀ y ∈ forL G V k', y ∈ M' ∧ y ≠ tx) := fun M' hs hF k' h e y hy => by
              by_cases e2 : k' < k
              · obtain ⟨h1, h2⟩ := hM.out.2.2 k' e2 e y hy
                exact ⟨hs y h1, h2⟩
              · obtain rfl : k' = k := by omega
                exact hF y hy
            generalize forL G V k = F at *
            have HM2 : Hid (MetI R tx M j ∧ (M.getD j 0 = t ∧ t ∈ M)) := ⟨hM.out.1, hM.out.2.1⟩
            clear HCF HFI HFN HED HCV hM hcm HT
            go_wp2_with fail
            go_quiet (fail)
            have y1q : (wr.drewN nq).cell? ⟨w.heap.size, 1, none⟩ = _ := y1
            have y0q : (wr.drewN nq).cell? ⟨w.heap.size, 0, none⟩ = _ := y0
            have hoq := ho.below (below_drewN (Below.refl _ _) nq)
            have hbq : Below W.heap.size W (wr.drewN nq) := below_drewN hbl nq
            have hsq : wr.heap.size ≤ (wr.drewN nq).heap.size := Nat.le_refl _
            clear y0 y1 d0 m0 ho hbl
            generalize wr.drewN nq = wq at *
            have C := HCK.out wq hbq
            clear HCK
            go_wp2_with fail
            refine C.mono ?_
            clear C
            rintro e w2 ⟨aF, cF, rfl, hoF, hbF⟩
            have hb2 : Below W.heap.size W w2 := hbq.trans (hbF.mono hbq.size)
            have ho2 := hoq.below hbF
            have HS2 : Hid (OwnI w2 W.heap.size w2.heap.size (some ⟨bm, offm, none⟩) c M ∧ (∀ q, (Value.slice (some ⟨bm, offm, none⟩) M.length c).ownBlock = some q → q < wq.heap.size ∨ w2.heap.size ≤ q) ∧ OwnI w2 wq.heap.size w2.heap.size aF cF F ∧ Below W.heap.size W w2) := ⟨ho2.widen (Nat.le_refl _) ho2.2.1 (Nat.le_refl _), fun q hq => .inl (by have := (hoq.lt q hq).2; omega), hoF, hb2⟩
            have hF2 : w2.heap.size ≤ w2.heap.size := Nat.le_refl _
            clear hbF hoq ho2 hoF hbq hb2 y0q y1q hsq hF2
            generalize wr = wp at *
            generalize w2.heap.size = top at *
            go_wp2_with fail
            go_loopw [5, 9] (fun o i wr => ∃ (n : Nat) (a : Option Addr) (c : Nat) (M' : List Int), n ≤ F.length ∧ M'.length ≤ 99 ∧ j < M'.length ∧ i = .int .i64 n ∧ o = .slice a M'.length c ∧ Hid ((MetI R tx M' j ∧ (M'.getD j 0 = t ∧ t ∈ M')) ∧ (∀ z ∈ M, z ∈ M') ∧ ∀ y ∈ F.take n, y ∈ M' ∧ y ≠ tx) ∧ OwnI wr W.heap.size wr.heap.size a c M' ∧ Hid (∀ q, (Value.slice a M'.length c).ownBlock = some q → q < wq.heap.size ∨ top ≤ q) ∧ OwnI wr wq.heap.size top aF cF F ∧ Below W.heap.size W wr) (fun _ i _ => F.length - (intOf i).toNat)
            case atStart => exact ⟨0, _, c, M, Nat.zero_le _, hM99, hjM, rfl, rfl, ⟨HM2.out, fun z hz => hz, fun y hy => by simp at hy⟩, HS2.out.1.widen (Nat.le_refl _) HS2.out.1.2.1 (Nat.le_refl _), HS2.out.2.1, HS2.out.2.2.1, HS2.out.2.2.2⟩
            case round =>
              obtain ⟨n, a, c', M', hn, hM99', hjM', rfl, rfl, hM', ho, hap, hoF, hbl⟩ := hrel
              clear HS2 HM2
              by_cases hnl : n < F.length
              · obtain ⟨bf, offf, rfl, hcf⟩ := hoF.reads (by intro e; rw [e] at hnl; simp at hnl)
                have f0 := hcf n hnl
                have HYF : Hid (F.getD n 0 ∈ F) := mem_getD hnl 0
                have HTS : Hid (F.take (n + 1) = F.take n ++ [F.getD n 0]) := take_step F 0 n hnl
                clear hcf
                generalize F.getD n 0 = y at *
                have HRY : Hid (R t y) := HEk.out y HYF.out
                by_cases qy : y = tx
                · have HT : Hid (BackE R tx) := met_hit hM'.out.1.1 hM'.out.1.2.2 (by rw [← qy]; exact HRY.out)
                  have HX := HB.out _ hbl
                  clear hM' HTS HYF HRY
                  subst qy
                  go_wp2_with fail
                  go_ret
                  exact ⟨true, rfl, ⟨fun _ => HT.out, fun _ => rfl⟩, HX⟩
                · have C := l9Among_any a c' M' y wr ho.reads (by omega)
                  have HA : Hid (M'.any (fun g => g == y) = true → y ∈ M') := fun h => by
                    obtain ⟨g, hg, e⟩ := List.any_eq_true.1 h
                    obtain rfl : g = y := by simpa using e
                    exact hg
                  have HA2 : Hid (M'.any (fun g => g == y) = false → y ∉ M') := fun h hy => by
                    have := List.any_eq_false.1 h y hy
                    simp at this
                  generalize M'.any (fun g => g == y) = am at *
                  have f0' := f0
                  go_wp2_with fail
                  refine C.mono ?_
                  rintro e w' ⟨rfl, rfl⟩
                  clear C
                  cases am
                  · have HP : Hid (MetI R tx (M' ++ [y]) j) := met_push hM'.out.1.1 (by omega) hM'.out.1.2.2 HRY.out (HA2.out rfl) (HFk.out y HYF.out)
                    have HMN : Hid (((M' ++ [y]).getD j 0 = t ∧ t ∈ M' ++ [y]) ∧ (∀ z ∈ M, z ∈ M' ++ [y]) ∧ ∀ x ∈ F.take (n + 1), x ∈ M' ++ [y] ∧ x ≠ tx) := by
                      refine ⟨⟨?_, List.mem_append.2 (.inl hM'.out.1.2.2)⟩, fun z hz => List.mem_append.2 (.inl (hM'.out.2.1 z hz)), fun x hx => ?_⟩
                      · rw [← hM'.out.1.2.1]; simp [List.getD, List.getElem?_append_left hjM']
                      · rw [HTS.out] at hx
                        rcases List.mem_append.1 hx with hx | hx
                        · obtain ⟨h1, h2⟩ := hM'.out.2.2 x hx
                          exact ⟨List.mem_append.2 (.inl h1), h2⟩
                        · obtain rfl := List.mem_singleton.1 hx
                          exact ⟨List.mem_append.2 (.inr (List.mem_singleton.2 rfl)), qy⟩
                    have ho3 := ho.below ((Below.refl _ _).alloc (Nat.le_refl _) (.cells #[.int .i64 y] 3))
                    have hoF3 := hoF.below ((Below.refl _ _).alloc (Nat.le_refl _) (.cells #[.int .i64 y] 3))
                    have hls := hbl.size
                    clear hM' HTS HYF HRY HA HA2
                    go_wp2_with (at_builtin; refine append_intsF rfl _ _ rfl W.heap.size w'.heap.size a c' M' rfl ho3 _ _ [y] rfl (readsI_one w' y _) (fun h => by cases h) (by simp; omega) (by simp; omega) ?_; intro a3 c3 y3 w3 hy3 ho3 hg3 hk3)
                    go_roundw
                    case rel =>
                      have e3 := hy3.out
                      subst e3
                      have hmf := HP.out.few
                      refine ⟨n + 1, a3, c3, _, by omega, hmf, by simp; omega, by go_num, rfl, ⟨⟨HP.out, HMN.out.1⟩, HMN.out.2⟩, ho3, fun q hq => ?_, hoF3.kept hg3 (fun q hq e => ?_), below_append hbl hg3 (fun q hq => (ho.lt q hq).1) hls⟩
                      · rcases hk3 q hq with e | e
                        · exact hap.out q e
                        · right
                          have e' : q = w'.heap.size + 1 := by simpa using e
                          have := hoF.2.1
                          omega
                      · have h1 := hoF.lt q hq
                        rcases hap.out q e with h | h <;> omega
                    case measure => simp [intOf]; omega
                  · have HMN : Hid ((MetI R tx M' j ∧ (M'.getD j 0 = t ∧ t ∈ M')) ∧ (∀ z ∈ M, z ∈ M') ∧ ∀ x ∈ F.take (n + 1), x ∈ M' ∧ x ≠ tx) := ⟨hM'.out.1, hM'.out.2.1, fun x hx => by
                      rw [HTS.out] at hx
                      rcases List.mem_append.1 hx with hx | hx
                      · exact hM'.out.2.2 x hx
                      · obtain rfl := List.mem_singleton.1 hx
                        exact ⟨HA.out rfl, qy⟩⟩
                    clear hM' HTS HYF HRY HA HA2
                    go_wp2_with fail
                    go_roundw
                    case rel => exact ⟨n + 1, a, c', M', by omega, hM99', hjM', by go_num, rfl, HMN.out, ho, hap.out, hoF, hbl⟩
                    case measure => simp [intOf]; omega
              · have HNX : Hid (MetI R tx M' j ∧ (M'.getD j 0 = t ∧ t ∈ M') ∧ ∀ k', k' < k + 1 → (V.getD k' zeroG).tx = t → ∀ y ∈ forL G V k', y ∈ M' ∧ y ≠ tx) := ⟨hM'.out.1.1, hM'.out.1.2, HNK.out M' hM'.out.2.1 (fun y hy => hM'.out.2.2 y (by rw [List.take_of_length_le (by omega)]; exact hy))⟩
                clear hM' HNK HEk
                go_wp2_with fail
                go_roundw
                case rel => exact ⟨k + 1, a, c', M', by omega, hM99', hjM', by go_num, rfl, HNX.out, ho, hbl⟩
                case measure => simp [intOf]; omega
          · have HNX : Hid (MetI R tx M j ∧ (M.getD j 0 = x ∧ x ∈ M) ∧ ∀ k', k' < k + 1 → (V.getD k' zeroG).tx = x → ∀ y ∈ forL G V k', y ∈ M ∧ y ≠ tx) := ⟨hM.out.1, hM.out.2.1, fun k' h e => by
              by_cases e2 : k' < k
              · exact hM.out.2.2 k' e2 e
              · obtain rfl : k' = k := by omega
                rw [HT.out] at e
                exact absurd e q⟩
            have HS : Hid (_ ∧ _) := ⟨ho, hbl⟩
            clear ho hbl hM hcm
            have qb : (t != x) = true := by simp [q]
            go_wp2_with fail
            go_quiet (fail)
            go_wp2_with fail
            go_roundw
            case rel => exact ⟨k + 1, _, c, M, by omega, hM99, hjM, by go_num, rfl, HNX.out, HS.out.1.below (below_drewN (Below.refl _ _) _), below_drewN HS.out.2 _⟩
            case measure => simp [intOf]; omega
        · have HNX : Hid (MetI R tx M (j + 1)) := met_next hM.out.1 (fun y hy => by
            rw [hM.out.2.1.1] at hy
            obtain ⟨k', h1, h2, h3⟩ := (HED.out x y).1 hy
            exact hM.out.2.2 k' (by omega) h2 y h3)
          have HS : Hid (_ ∧ _) := ⟨ho, hbl⟩
          clear ho hbl hM
          go_wp2_with fail
          go_roundw
          case rel => exact ⟨j + 1, a, c, M, by omega, hM99, by go_num, rfl, HNX.out, HS.out.1, HS.out.2⟩
          case measure => simp [intOf]; omega
    · have HF : Hid (¬ BackE R tx) := met_end hM.out (by omega)
      have HX := HB.out _ hbl
      clear hM
      go_wp2_with fail
      go_ret
      exact ⟨false, rfl, ⟨fun h => (by cases h), fun h => absurd h HF.out⟩, HX⟩
end Go.Proofs.YtekljhabjkmhpaaDoor
