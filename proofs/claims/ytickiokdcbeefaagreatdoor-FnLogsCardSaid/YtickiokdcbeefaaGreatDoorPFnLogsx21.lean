/- Several texts in one, in their order. -/
import Derived.Test.YtickiokdcbeefaaGreatDoorPFnLogsx20
import Derived.Test.YtickiokdcbeefaaGreatDoorPFnLogsx19
/- A page fetched: the walk of spec.l7Fetch. -/
namespace Go.Proofs.YtickiokdcbeefaaGreatDoor
open Go.RowKit
attribute [local go_sem ↓] Go.wp_at_zero Go.wp_at_succ

def FitV (ss : List SlotV) : Prop := ∀ s ∈ ss, s.o.ints.length ≤ 1099511627776 ∧ s.o.refs.length ≤ 1099511627776
def hotV (s : SeatV) : SeatV := { s with hot := true }
def fetchV (e : EngV) (n : Nat) : EngV × Int :=
  if 0 ≤ seatedOf e.seats n then ({ e with seats := e.seats.set (seatedOf e.seats n).toNat (hotV (e.seats.getD (seatedOf e.seats n).toNat zeroStV)) }, seatedOf e.seats n)
  else
    let b := bringV e.seats e.hand.toNat ⟨n, (e.disk.getD n (0, [])).1, (e.disk.getD n (0, [])).2, false, true⟩
    let e1 : EngV := { e with seats := b.1, hand := b.2.1 }
    let e2 := if b.2.2.2 = true ∧ b.2.2.1.dirty = true then writeV e1 b.2.2.1 else e1
    (e2, seatedOf e2.seats n)
structure EngV.poolOk (e : EngV) : Prop where
  len : e.seats.length ≤ 3
  hand : ∃ h : Nat, e.hand = h ∧ h < 3
  nos : ∀ s ∈ e.seats, ∃ n : Nat, s.no = n ∧ n < 8
  fitS : ∀ s ∈ e.seats, FitV s.ss
  eight : e.disk.length = 8
  fitD : ∀ p ∈ e.disk, FitV p.2
theorem fit_of {ss : List SlotA} (h : FitV (ss.map (·.v))) : Fit ss := fun s hs => h s.v (List.mem_map_of_mem hs)
theorem seatFrom_lt (no : Int) (ss : List SeatV) (k : Nat) : seatFrom no ss k = -1 ∨ ∃ j, seatFrom no ss k = (k + j : Nat) ∧ j < ss.length ∧ (ss.getD j zeroStV).no = no := by
  induction ss generalizing k with
  | nil => exact .inl rfl
  | cons s r ih =>
    rw [seatFrom]
    by_cases h : s.no = no
    · rw [if_pos h]; exact .inr ⟨0, rfl, by simp, by simpa using h⟩
    · rw [if_neg h]
      rcases ih (k + 1) with h1 | ⟨j, h1, h2, h3⟩
      · exact .inl h1
      · exact .inr ⟨j + 1, by rw [h1]; congr 1; omega, by simp; omega, by simpa using h3⟩
theorem seated_cases (ss : List SeatV) (no : Int) : seatedOf ss no = -1 ∨ ∃ j : Nat, seatedOf ss no = j ∧ j < ss.length ∧ (ss.getD j zeroStV).no = no := by
  rcases seatFrom_lt no ss 0 with h | ⟨j, h1, h2, h3⟩
  · exact .inl h
  · exact .inr ⟨j, by rw [seatedOf, h1]; simp, h2, h3⟩
theorem EngA.cells_tail {e : EngA} (h : e.shape) (j : Nat) : e.cells[136 + j]? = e.tail[j]? := by
  rw [EngA.cells, List.getElem?_append_right (by rw [EngA.disk_len h]; omega), EngA.disk_len h, show 136 + j - 136 = j by omega]
theorem EngAt.poolAt {w : World} {E : Nat} {e : EngA} (h : EngAt w E e) : PoolAt w 0 w.heap.size E 136 e.cells TE e.aS e.cS e.seats e.hand :=
  ⟨h.box, EngA.cells_tail h.shape 0, EngA.cells_tail h.shape 1, h.own.pool, fun hk => h.off (EngA.mem_pool hk)⟩
theorem EngA.cells_pool {e : EngA} (h : e.shape) (ss : List SeatA) (a : Option Addr) (c : Nat) (hand : Int) : (e.cells.set 136 (.slice a ss.length c)).set 137 (.int .i64 hand) = (e.withPool ss a c hand).cells := by
  have h1 : e.cells.set 136 (.slice a ss.length c) = cellsPs e.disk ++ e.tail.set 0 (.slice a ss.length c) := EngA.cells_set h 0 _
  rw [h1, List.set_append_right _ _ (by rw [EngA.disk_len h]; omega), EngA.disk_len h]
  rfl
theorem Brought.step {w w' : World} {E : Nat} {e : EngA} {ts : List SeatA} {a' : Option Addr} {c' hand' : Nat} {old : SeatA} (h : EngAt w E e) (b : Brought 0 E 136 e.cells TE e.aS e.cS e.seats w w' ts a' c' hand' old) : EngStep E e w (e.withPool ts a' c' hand') w' := by
  refine h.pool ts a' c' hand' ?_ b.pool.own b.touch b.fresh
  have := b.pool.box
  rw [EngA.cells_pool h.shape] at this
  exact this
/-- One cell of a seat stored. -/
theorem EngAt.seatSet {w : World} {E : Nat} {e : EngA} (h : EngAt w E e) (k : Nat) (hk : k < e.seats.length) (z' : SeatA) (i : Nat) (v : Value) (hi : i < 20) (hc : z'.cells = (e.seats.getD k zeroSt).cells.set i v) (hss : z'.ss = (e.seats.getD k zeroSt).ss) :
    ∃ g W, e.aS = some ⟨g, 0, none⟩ ∧ g ≠ E ∧ Hid (w.setCell ⟨g, k * 20 + i, none⟩ v = W) ∧ (∀ j, w.frozen? ⟨g, j, none⟩ = false) ∧ w.rangeAt g (k * 20) (e.seats.getD k zeroSt).cells ∧ EngStep E e w (e.withPool (e.seats.set k z') e.aS e.cS e.hand) W ∧ Touch [g] w W ∧ W.heap.size = w.heap.size := by
  obtain ⟨g, hg⟩ : ∃ g, e.aS = some ⟨g, 0, none⟩ := by
    rcases h.own.pool.row.2 with ⟨_, h0⟩ | ⟨g, cap', cur, hv, _⟩
    · omega
    · simp only [Value.slice.injEq] at hv; exact ⟨g, hv.1⟩
  have hmem : g ∈ blocksSts e.aS e.cS e.seats := by rw [hg]; simp [blocksSts, Value.ownBlock]
  have hgE : g ≠ E := fun e1 => h.off (by rw [← e1]; exact EngA.mem_pool hmem)
  have ho := h.own.pool
  rw [hg] at ho
  have hr := row_seat ho.row rfl k hk
  have hf : ∀ j, w.frozen? ⟨g, j, none⟩ = false := fun j => ho.row.frozenAt j
  rw [seatD_split e.seats k hk] at ho
  obtain ⟨o2, t2⟩ := OwnSts.cellSet (z' := z') ho i v hi hc hss
  have hkl : (e.seats.take k).length = k := by rw [List.length_take]; omega
  rw [hkl, ← seat_set e.seats k z' hk] at o2
  rw [hkl] at t2
  have hsz : (w.setCell ⟨g, k * 20 + i, none⟩ v).heap.size = w.heap.size := by simp
  have hbl : blocksSts (some ⟨g, 0, none⟩) e.cS (e.seats.set k z') = blocksSts (some ⟨g, 0, none⟩) e.cS e.seats := by
    refine blocksSts_len (n := e.seats.length) (by simp) rfl ?_
    rw [seat_set _ _ _ hk]
    conv => rhs; rw [seatD_split e.seats k hk]
    simp only [List.flatMap_append, List.flatMap_cons, SeatA.blocks, hss]
  refine ⟨g, _, hg, hgE, rfl, hf, hr.1, ?_, t2, hsz⟩
  refine h.pool _ _ _ _ ?_ ?_ (t2.mono (fun j hj => List.mem_cons_of_mem _ (by rw [List.mem_singleton.1 hj]; exact hmem))) (fun j hj => .inl ?_)
  · have e1 : (e.withPool (e.seats.set k z') e.aS e.cS e.hand).cells = e.cells := by
      simp only [EngA.cells, EngA.tail, EngA.withPool, List.length_set]
    rw [e1]
    exact h.box.touch t2 (by simpa using fun e1 => hgE e1.symm)
  · rw [hg]
    exact o2.widen (Nat.le_refl _) (Nat.le_of_eq hsz.symm) (Nat.le_refl _)
  · rw [hg] at hj ⊢
    rw [hbl] at hj
    exact hj

theorem EngStep.put {E X : Nat} {e e' : EngA} {w w' w'' : World} (s : EngStep E e w e' w') (hw : Within X (X + 1) w' w'') (ho : Off E e' X) (hX : w.heap.size ≤ X) : EngStep E e w e' w'' :=
  ⟨s.at'.within hw (fun h => ho.1 (by omega)) (fun k hk h => ho.2 (by have : k = X := by omega
                                                                      rw [← this]; exact hk)),
   ⟨hw.os.trans s.touch.os, hw.tape.trans s.touch.tape, hw.output.trans s.touch.output, Nat.le_trans s.size hw.size, fun k hk hn => (hw.block k (Nat.lt_of_lt_of_le hk s.size) (by omega)).trans (s.touch.block k hk hn)⟩, s.fresh⟩
theorem victim_mem (m : Nat) (ss : List SeatV) (h : Nat) : ∀ s ∈ (victimV m ss h).1, ∃ s0 ∈ ss, s.no = s0.no ∧ s.ss = s0.ss ∧ s.lsn = s0.lsn ∧ s.dirty = s0.dirty := by
  induction m generalizing ss h with
  | zero => exact fun s hs => ⟨s, hs, rfl, rfl, rfl, rfl⟩
  | succ m ih =>
    intro s hs
    rw [victimV] at hs
    split at hs
    · next hh =>
      obtain ⟨s0, h0, e1, e2, e3, e4⟩ := ih _ _ s hs
      rcases List.mem_or_eq_of_mem_set h0 with h1 | h1
      · exact ⟨s0, h1, e1, e2, e3, e4⟩
      · by_cases hlt : h < ss.length
        · refine ⟨ss.getD h zeroStV, ?_, by rw [e1, h1]; rfl, by rw [e2, h1]; rfl, by rw [e3, h1]; rfl, by rw [e4, h1]; rfl⟩
          simp only [List.getD, List.getElem?_eq_getElem hlt, Option.getD_some]
          exact List.getElem_mem hlt
        · exfalso
          have hge : ss.length ≤ h := by omega
          simp only [List.getD, List.getElem?_eq_none hge, Option.getD_none] at hh
          cases hh
    · exact ⟨s, hs, rfl, rfl, rfl, rfl⟩
theorem bring_len (ss : List SeatV) (h : Nat) (new : SeatV) (hl : ss.length ≤ 3) : (bringV ss h new).1.length ≤ 3 := by
  unfold bringV
  split
  · simp; omega
  · simp only [List.length_set, victim_len]; exact hl
theorem bring_old (ss : List SeatV) (h : Nat) (new : SeatV) (hw : (bringV ss h new).2.2.2 = true) (hh : h < 3) : ∃ s0 ∈ ss, (bringV ss h new).2.2.1.no = s0.no ∧ (bringV ss h new).2.2.1.ss = s0.ss := by
  unfold bringV at hw ⊢
  split at hw
  · cases hw
  · next hl =>
    rw [if_neg hl]
    have hk := (victim_hand 4 ss h hh).2
    have hlen := victim_len 4 ss h
    have hlt : (victimV 4 ss h).2.2 < (victimV 4 ss h).1.length := by omega
    obtain ⟨s0, h0, e1, e2, _, _⟩ := victim_mem 4 ss h ((victimV 4 ss h).1.getD (victimV 4 ss h).2.2 zeroStV) (by
      simp only [List.getD, List.getElem?_eq_getElem hlt, Option.getD_some]
      exact List.getElem_mem hlt)
    exact ⟨s0, h0, e1, e2⟩

set_option maxHeartbeats 4000000 in
set_option maxRecDepth 100000 in
theorem l7Fetch_any (E : Nat) (e : EngA) (n : Nat) (w : World) (h : EngAt w E e) (hp : e.v.poolOk) (h8 : n < 8) :
    Calls Tryz.prog 113 #[.pointer (some ⟨E, 0, none⟩), .int .i64 n] w fun r w' => ∃ (e' : EngA) (k : Int), r = .returned (.int .i64 k) ∧ Hid (fetchV e.v n = (e'.v, k)) ∧ Hid (e'.log.recs = e.log.recs) ∧ EngStep E e w e' w' := by
  have HIQ : Hid ((Tryz.prog.info? 102).map (·.size) = some [Value.slice e.aS e.seats.length e.cS, .int .i64 e.hand].length) := by rw [Hid]; kernel_rfl
  have HRQ : Hid (∀ u (e1 : EngA), EngAt u E e1 → u.rangeAt E 136 [.slice e1.aS e1.seats.length e1.cS, .int .i64 e1.hand]) := fun u e1 hu j v hv => by
    match j, hv with
    | 0, hv => cases hv; exact EngA.cell_at hu.shape hu.box 0 _ rfl
    | 1, hv => cases hv; exact EngA.cell_at hu.shape hu.box 1 _ rfl
  have C1 := specSeated_any e.aS e.cS e.seats e.hand n w h.own.pool.reads (by have := hp.len; simp only [EngA.v, List.length_map] at this; omega)
  go_enter Tryz.func113, Tryz.ntmps113
  go_wp2_with (first | (guard_target = wpList _ _ _ (Oper.mk (some 11) _ _ _ _ _ :: _) _ _; refine wpList_load_mid rfl 102 (.tmp 10) rfl E 136 rfl _ _ (HRQ.out w e h) Tryz.underlying102 rfl HIQ.out ?_) | fail)
  refine C1.mono ?_
  clear C1
  rintro r w1 ⟨rfl, hb1⟩
  have a1 := h.below hb1
  rcases seated_cases (e.seats.map SeatA.v) n with hs | ⟨k, hs, hk, hno⟩
  · have hneg : ¬ (0 : Int) ≤ seatedOf (e.seats.map SeatA.v) n := by rw [hs]; omega
    obtain ⟨hd, hhd, hhb⟩ := hp.hand
    have hhd' : e.hand = (hd : Int) := hhd
    have hlen : e.seats.length ≤ 3 := by have := hp.len; simpa [EngA.v] using this
    have hdk : n < e.disk.length := by rw [h.shape.eight]; exact h8
    obtain ⟨pg, hpg⟩ : ∃ pg : PageA, Hid (e.disk[n] = pg) := ⟨e.disk[n], rfl⟩
    have HPG : Hid (e.v.disk.getD n (0, []) = (pg.lsn, pg.ss.map (·.v))) := by
      rw [Hid, ← hpg.out]
      simp [EngA.v, List.getD, hdk]
    have h4 : pg.ss.length = 4 := by rw [← hpg.out]; exact h.shape.four _ (List.getElem_mem hdk)
    have HSS : Hid (∀ u (e1 : EngA), EngAt u E e1 → e1.disk = e.disk → u.rangeAt E (n * 17) pg.cells) := fun u e1 hu hd1 => by
      have h1 := EngA.page_at hu.shape hu.box n (by rw [hd1]; exact hdk)
      simp only [hd1, hpg.out] at h1
      exact h1
    have hfit : Fit pg.ss := fit_of (by
      have := hp.fitD (e.v.disk.getD n (0, [])) (by
        simp only [List.getD, EngA.v, List.getElem?_map, List.getElem?_eq_getElem hdk, Option.map_some, Option.getD_some]
        exact List.mem_map_of_mem (List.getElem_mem hdk))
      rw [HPG.out] at this
      exact this)
    have HRD : Hid (∀ u, EngAt u E e → ReadsS u pg.ss) := fun u hu s hs => hu.own.disk.reads s (List.mem_flatMap.2 ⟨e.disk[n], List.getElem_mem hdk, by rw [hpg.out]; exact hs⟩)
    have HI : Hid ((Tryz.prog.info? 98).map (·.size) = some pg.cells.length) := by rw [Hid, page_len pg h4]; kernel_rfl
    have HNEG : Hid (seatedOf (e.seats.map SeatA.v) n = -1) := hs
    have ND : Below w1.heap.size w1 w1.drew := (Below.refl _ _).drew
    have hn8 : (n : Int) < 8 := by omega
    have hn0 : (0 : Int) ≤ (n : Int) := by omega
    rw [hs]
    clear hs hpg hdk
    go_upto_region 5 with fail
    refine wp_region_held_drew (S := fun w' => w'.rangeAt E (n * 17) pg.cells ∧ True) (by kernel_rfl) ?_ (fun hHeld => ?_)
    · exact ⟨HSS.out _ e (a1.below ND) rfl, trivial⟩
    refine wpAnyH_take (i := 0) (v := .pointer (some ⟨E, 0, none⟩)) rfl (by kernel_rfl) (by kernel_rfl) (by kernel_rfl) (fun _ _ _ h => h) (Or.inl ⟨by rfl, ?_⟩) hHeld ?_
    · intro w' hSw
      go_simp <;> rfl
    try simp only [Act.put, List.getElem_toArray, List.getElem_cons_zero, List.setIfInBounds_toArray, List.set_cons_zero, List.set_cons_succ]
    refine wpAnyH_take (i := 1) (v := .pointer (some ⟨E, 0, none⟩)) rfl (by kernel_rfl) (by kernel_rfl) (by kernel_rfl) (fun _ _ _ h => h) (Or.inl ⟨by rfl, ?_⟩) hHeld ?_
    · intro w' hSw
      go_simp <;> rfl
    try simp only [Act.put, List.getElem_toArray, List.getElem_cons_zero, List.getElem_cons_succ, List.setIfInBounds_toArray, List.set_cons_zero, List.set_cons_succ]
    refine wpAnyH_take (i := 2) (v := .pointer (some ⟨E, 136, none⟩)) rfl (by kernel_rfl) (by kernel_rfl) (by kernel_rfl) (fun _ _ _ h => h) (Or.inl ⟨by rfl, ?_⟩) hHeld ?_
    · intro w' hSw
      go_simp <;> rfl
    try simp only [Act.put, List.getElem_toArray, List.getElem_cons_zero, List.getElem_cons_succ, List.setIfInBounds_toArray, List.set_cons_zero, List.set_cons_succ]
    refine wpAnyH_take (i := 3) (v := .int .i64 n) rfl (by kernel_rfl) (by kernel_rfl) (by kernel_rfl) (fun _ _ _ h => h) (Or.inl ⟨by rfl, ?_⟩) hHeld ?_
    · intro w' hSw
      go_simp <;> rfl
    try simp only [Act.put, List.getElem_toArray, List.getElem_cons_zero, List.getElem_cons_succ, List.setIfInBounds_toArray, List.set_cons_zero, List.set_cons_succ]
    refine wpAnyH_take (i := 4) (v := .pointer (some ⟨E, 0, none⟩)) rfl (by kernel_rfl) (by kernel_rfl) (by kernel_rfl) (fun _ _ _ h => h) (Or.inl ⟨by rfl, ?_⟩) hHeld ?_
    · intro w' hSw
      go_simp <;> rfl
    try simp only [Act.put, List.getElem_toArray, List.getElem_cons_zero, List.getElem_cons_succ, List.setIfInBounds_toArray, List.set_cons_zero, List.set_cons_succ]
    refine wpAnyH_take (i := 5) (v := .int .i64 n) rfl (by kernel_rfl) (by kernel_rfl) (by kernel_rfl) (fun _ _ _ h => h) (Or.inl ⟨by rfl, ?_⟩) hHeld ?_
    · intro w' hSw
      go_simp <;> rfl
    try simp only [Act.put, List.getElem_toArray, List.getElem_cons_zero, List.getElem_cons_succ, List.setIfInBounds_toArray, List.set_cons_zero, List.set_cons_succ]
    refine wpAnyH_take (i := 6) (v := .pointer (some ⟨E, 0, none⟩)) rfl (by kernel_rfl) (by kernel_rfl) (by kernel_rfl) (fun _ _ _ h => h) (Or.inl ⟨by rfl, ?_⟩) hHeld ?_
    · intro w' hSw
      go_simp <;> rfl
    try simp only [Act.put, List.getElem_toArray, List.getElem_cons_zero, List.getElem_cons_succ, List.setIfInBounds_toArray, List.set_cons_zero, List.set_cons_succ]
    refine wpAnyH_take (i := 7) (v := .pointer (some ⟨E, 0, none⟩)) rfl (by kernel_rfl) (by kernel_rfl) (by kernel_rfl) (fun _ _ _ h => h) (Or.inl ⟨by rfl, ?_⟩) hHeld ?_
    · intro w' hSw
      go_simp <;> rfl
    try simp only [Act.put, List.getElem_toArray, List.getElem_cons_zero, List.getElem_cons_succ, List.setIfInBounds_toArray, List.set_cons_zero, List.set_cons_succ]
    refine wpAnyH_take (i := 8) (v := .pointer (some ⟨E, n * 17, none⟩)) rfl (by kernel_rfl) (by kernel_rfl) (by kernel_rfl) (fun _ _ _ h => h) (Or.inl ⟨by rfl, ?_⟩) hHeld ?_
    · intro w' hSw
      go_simp <;> rfl
    try simp only [Act.put, List.getElem_toArray, List.getElem_cons_zero, List.getElem_cons_succ, List.setIfInBounds_toArray, List.set_cons_zero, List.set_cons_succ]
    refine wpAnyH_take (i := 9) rfl (by kernel_rfl) (by kernel_rfl) (by kernel_rfl) (fun _ _ _ h => h) (yieldsIf_load_mid (by rfl) _ _ rfl _ _ rfl pg.cells _ (fun _ h => h.1) Tryz.underlying98 rfl HI.out) hHeld ?_
    try simp only [Act.put, List.getElem_toArray, List.getElem_cons_zero, List.getElem_cons_succ, List.setIfInBounds_toArray, List.set_cons_zero, List.set_cons_succ]
    refine wpAnyH_ready (rs := [10, 14]) (by kernel_rfl) (by simp) ?_
    refine AllReadyH.cons rfl (fun K hK => ?_) (AllReadyH.cons rfl (fun K hK => ?_) AllReadyH.nil)
    · have aP := a1.below ND
      have pP := aP.poolAt
      rw [hhd'] at pP
      have C5 := l6Bring_any 0 w1.drew.heap.size E 136 e.cells TE e.aS e.cS e.seats hd n pg w1.drew pP (Nat.zero_le _) hlen hhb h4 (HRD.out _ aP) hfit
      clear pP
      go_simp
      refine C5.mono ?_
      clear C5
      rintro r w5 ⟨ts, a', c', hand', old, went, rfl, hbv, br⟩
      have s5 := br.step aP
      have HOE : Hid (∀ j ∈ old.blocks, j ≠ E ∧ j < w1.heap.size) := fun j hj => ⟨fun e1 => h.off (EngA.mem_pool (by rw [← e1]; exact br.wentB j hj)), a1.lt j (EngA.mem_pool (br.wentB j hj))⟩
      have oo5 := br.went
      have q5 := HSS.out _ _ s5.at' rfl
      have hs5 := s5.size
      refine hK.out _ _ (⟨q5, trivial⟩) (fun hHeld => ?_)
      clear hK K
      try simp only [Act.put, List.getElem_toArray, List.getElem_cons_zero, List.getElem_cons_succ, List.setIfInBounds_toArray, List.set_cons_zero, List.set_cons_succ]
      refine wpAnyH_take (i := 11) (v := .tuple #[.agg old.cells.toArray, .bool went]) rfl (by kernel_rfl) (by kernel_rfl) (by kernel_rfl) (fun _ _ _ h => h) (Or.inl ⟨by rfl, ?_⟩) hHeld ?_
      · intro w' hSw
        go_simp <;> rfl
      try simp only [Act.put, List.getElem_toArray, List.getElem_cons_zero, List.getElem_cons_succ, List.setIfInBounds_toArray, List.set_cons_zero, List.set_cons_succ]
      refine wpAnyH_take (i := 12) (v := .agg old.cells.toArray) rfl (by kernel_rfl) (by kernel_rfl) (by kernel_rfl) (fun _ _ _ h => h) (Or.inl ⟨by rfl, ?_⟩) hHeld ?_
      · intro w' hSw
        go_simp <;> rfl
      try simp only [Act.put, List.getElem_toArray, List.getElem_cons_zero, List.getElem_cons_succ, List.setIfInBounds_toArray, List.set_cons_zero, List.set_cons_succ]
      refine wpAnyH_take (i := 13) (v := .bool went) rfl (by kernel_rfl) (by kernel_rfl) (by kernel_rfl) (fun _ _ _ h => h) (Or.inl ⟨by rfl, ?_⟩) hHeld ?_
      · intro w' hSw
        go_simp <;> rfl
      try simp only [Act.put, List.getElem_toArray, List.getElem_cons_zero, List.getElem_cons_succ, List.setIfInBounds_toArray, List.set_cons_zero, List.set_cons_succ]
      obtain ⟨W6, hW6, b6, hb6, hs6⟩ := boxes1 w5 zeroSt.cells 176
      have hW6' : Hid (w5.alloc (.cells #[.int .i64 0, .int .i64 0, .bool false, .int .i64 0, .slice none 0 0, .slice none 0 0, .bool false, .int .i64 0, .slice none 0 0, .slice none 0 0, .bool false, .int .i64 0, .slice none 0 0, .slice none 0 0, .bool false, .int .i64 0, .slice none 0 0, .slice none 0 0, .bool false, .bool false] 176) = W6) := hW6.out
      refine wpAnyH_ready (rs := [14]) (by kernel_rfl) (by simp) ?_
      refine AllReadyH.cons rfl (fun K hK => ?_) AllReadyH.nil
      go_simp
      rw [hW6'.out]
      have s6 := s5.below hb6
      have hoX := s5.at'.new (Nat.le_refl w5.heap.size)
      obtain ⟨W8, hW8, hw8, hs8, HT8, _, bo⟩ := seat_out old _ rfl b6
      have S8 : EngStep E e w (e.withPool ts a' c' hand') W8 := EngStep.after (hb1.trans (ND.mono hb1.size)) (EngStep.put s6 hw8 hoX hs5)
      have oo8 : old.own W8 0 w5.heap.size := (oo5.below hb6).within hw8 (.inl (Nat.le_refl _))
      have HRX : Hid (W8.rangeAt w5.heap.size 0 old.cells) := Box.range [] old.cells [] (by simpa using bo)
      have hW8' : Hid (W6.setCells w5.heap.size 0 old.cells.toArray.toList = W8) := hW8.out
      refine hK.out _ _ (⟨HSS.out _ _ s6.at' rfl, trivial⟩) (fun hHeld => ?_)
      clear hK K
      try simp only [Act.put, List.getElem_toArray, List.getElem_cons_zero, List.getElem_cons_succ, List.setIfInBounds_toArray, List.set_cons_zero, List.set_cons_succ]
      refine wpAnyH_ready (rs := [15]) (by kernel_rfl) (by simp) ?_
      refine AllReadyH.cons rfl (fun K hK => ?_) AllReadyH.nil
      rw [if_pos (by rfl)]
      refine wp_store_mid 176 (.tmp 6) (.tmp 37) rfl w5.heap.size 0 old.cells.toArray rfl rfl HT8.out (seat_info old) (seat_one old) ?_
      rw [hW8'.out]
      refine hK.out _ _ (⟨HSS.out _ _ S8.at' rfl, trivial⟩) (fun hHeld => ?_)
      clear hK K
      try simp only [Act.put, List.getElem_toArray, List.getElem_cons_zero, List.getElem_cons_succ]
      refine wpAnyH_take (i := 16) (v := .bool went) rfl (by kernel_rfl) (by kernel_rfl) (by kernel_rfl) (fun _ _ _ h => h) (Or.inl ⟨by rfl, ?_⟩) hHeld ?_
      · intro w' hSw
        go_simp <;> rfl
      try simp only [Act.put, List.getElem_toArray, List.getElem_cons_zero, List.getElem_cons_succ, List.setIfInBounds_toArray, List.set_cons_zero, List.set_cons_succ]
      refine wpAnyH_done (by kernel_rfl) ?_ _
      clear hW8' hW8 hw8 hs8 HT8 s6 b6 hb6 hs6 hW6 hW6' s5 q5 br aP oo5 ND
      generalize w5.heap.size = X at *
      have r8 := HRX.out
      have d8 := bo.cell 18 _ (show old.cells[18]? = some (.bool old.dirty) from rfl)
      have HFV : Hid (fetchV e.v n = ((if went = true ∧ old.v.dirty = true then writeV (e.withPool ts a' c' hand').v old.v else (e.withPool ts a' c' hand').v), seatedOf (if went = true ∧ old.v.dirty = true then writeV (e.withPool ts a' c' hand').v old.v else (e.withPool ts a' c' hand').v).seats n)) := by
        rw [Hid, fetchV, if_neg (by rw [show e.v.seats = e.seats.map SeatA.v from rfl, HNEG.out]; omega)]
        have e1 : e.v.seats = e.seats.map SeatA.v := rfl
        have e2 : e.v.hand.toNat = hd := by rw [hhd]; rfl
        have e3 : e.v.disk.getD n (0, []) = (pg.lsn, pg.ss.map (·.v)) := HPG.out
        simp only [e1, e2, e3, hbv.out]
        rfl
      have HSE : Hid (∀ u (e1 : EngA), EngAt u E e1 → e1.seats.length ≤ 3 → Calls Tryz.prog 132 #[.agg #[.slice e1.aS e1.seats.length e1.cS, .int .i64 e1.hand], .int .i64 n] u fun r w' => r = .returned (.int .i64 (seatedOf (e1.seats.map SeatA.v) n)) ∧ Below u.heap.size u w') := fun u e1 hu hl1 => specSeated_any e1.aS e1.cS e1.seats e1.hand n u hu.own.pool.reads (by omega)
      have HTL : Hid (ts.length ≤ 3) := by
        have h1 := bring_len (e.seats.map SeatA.v) hd ⟨n, pg.lsn, pg.ss.map (·.v), false, true⟩ (by rw [List.length_map]; exact hlen)
        rw [hbv.out] at h1
        rw [Hid]
        simpa using h1
      have HOK : Hid (went = true → ∃ m : Nat, old.no = m ∧ m < 8 ∧ Fit old.ss) := fun hwt => by
        have h1 := bring_old (e.seats.map SeatA.v) hd ⟨n, pg.lsn, pg.ss.map (·.v), false, true⟩ (by rw [hbv.out]; exact hwt) hhb
        rw [hbv.out] at h1
        obtain ⟨s0, hs0, e1, e2⟩ := h1
        obtain ⟨m, hm, hm8⟩ := hp.nos s0 hs0
        exact ⟨m, by rw [← hm, ← e1]; rfl, hm8, fit_of (by have := hp.fitS s0 hs0; rw [← e2] at this; exact this)⟩
      have HOR : Hid (∀ u, Touch [E] W8 u → old.reads u) := fun u hu => (oo8.touch hu (fun j hj hk => (HOE.out j hj).1 (List.mem_singleton.1 hk))).reads
      have HIQ8 : Hid ((Tryz.prog.info? 102).map (·.size) = some [Value.slice a' ts.length c', .int .i64 (hand' : Int)].length) := by rw [Hid]; kernel_rfl
      have HRQ8 : Hid (∀ u (e1 : EngA), EngAt u E e1 → u.rangeAt E 136 [.slice e1.aS e1.seats.length e1.cS, .int .i64 e1.hand]) := HRQ
      clear HRX hHeld bo
      by_cases hw : went = true
      · subst hw
        by_cases hdi : old.dirty = true
        · rw [hdi] at d8
          obtain ⟨m, hm, hm8, hfit⟩ := HOK.out rfl
          have C7 := l7Write_any E (e.withPool ts a' c' hand') old W8 S8.at' m hm hm8 HOR.out hfit
          clear HOK HOR hm
          go_wp2_with (first | (guard_target = wpList _ _ _ (Oper.mk (some 45) _ _ _ _ _ :: _) _ _; refine wpList_load_mid rfl 176 (.tmp 6) rfl X 0 rfl old.cells _ r8 Tryz.underlying176 rfl (seat_info old) ?_) | fail)
          refine C7.mono ?_
          clear C7 d8 r8
          rintro r w9 ⟨⟨v9, rfl⟩, e9, he9, hl9, s9⟩
          have S9 := S8.trans s9
          have hq : e9.seats.length ≤ 3 := by
            have h1 := congrArg (fun x : EngV => x.seats.length) he9.out
            simp only [EngA.v, writeV, EngA.withPool, List.length_map] at h1
            have := HTL.out
            omega
          have C9 := HSE.out w9 e9 s9.at' hq
          have HI9 : Hid ((Tryz.prog.info? 102).map (·.size) = some [Value.slice e9.aS e9.seats.length e9.cS, .int .i64 e9.hand].length) := by rw [Hid]; kernel_rfl
          have r9 := HRQ8.out w9 e9 s9.at'
          have HEV : Hid (fetchV e.v n = (e9.v, seatedOf (e9.seats.map SeatA.v) n)) := by
            rw [Hid, HFV.out, if_pos (by first | exact ⟨rfl, hdi⟩ | exact ⟨trivial, hdi⟩), ← he9.out]
            rfl
          clear HFV HSE HTL s9 S8 oo8 hdi
          go_wp2_with (first | (guard_target = wpList _ _ _ (Oper.mk (some 50) _ _ _ _ _ :: _) _ _; refine wpList_load_mid rfl 102 (.tmp 49) rfl E 136 rfl _ _ r9 Tryz.underlying102 rfl HI9.out ?_) | fail)
          refine C9.mono ?_
          rintro r w10 ⟨rfl, hb10⟩
          go_wp2
          go_ret
          exact ⟨e9, _, rfl, HEV, hl9, S9.below hb10⟩
        · have hdf : old.dirty = false := by simpa using hdi
          rw [hdf] at d8
          have C9 := HSE.out W8 _ S8.at' HTL.out
          have r9 := HRQ8.out W8 _ S8.at'
          have HEV : Hid (fetchV e.v n = ((e.withPool ts a' c' hand').v, seatedOf (ts.map SeatA.v) n)) := by
            rw [Hid, HFV.out, if_neg (fun hh => hdi hh.2)]
            rfl
          clear HFV HSE HTL oo8 hdi hdf HOK HOR r8
          go_wp2_with (first | (guard_target = wpList _ _ _ (Oper.mk (some 50) _ _ _ _ _ :: _) _ _; refine wpList_load_mid rfl 102 (.tmp 49) rfl E 136 rfl _ _ r9 Tryz.underlying102 rfl HIQ8.out ?_) | fail)
          refine C9.mono ?_
          rintro r w10 ⟨rfl, hb10⟩
          go_wp2
          go_ret
          exact ⟨_, _, rfl, HEV, rfl, S8.below hb10⟩
      · have hwf : went = false := by simpa using hw
        subst hwf
        have C9 := HSE.out W8 _ S8.at' HTL.out
        have r9 := HRQ8.out W8 _ S8.at'
        have HEV : Hid (fetchV e.v n = ((e.withPool ts a' c' hand').v, seatedOf (ts.map SeatA.v) n)) := by
          rw [Hid, HFV.out, if_neg (fun hh => by cases hh.1)]
          rfl
        clear HFV HSE HTL oo8 HOK HOR r8 d8
        go_wp2_with (first | (guard_target = wpList _ _ _ (Oper.mk (some 50) _ _ _ _ _ :: _) _ _; refine wpList_load_mid rfl 102 (.tmp 49) rfl E 136 rfl _ _ r9 Tryz.underlying102 rfl HIQ8.out ?_) | fail)
        refine C9.mono ?_
        rintro r w10 ⟨rfl, hb10⟩
        go_wp2
        go_ret
        exact ⟨_, _, rfl, HEV, rfl, S8.below hb10⟩
    · obtain ⟨V6, hV6, b6', hb6', hs6⟩ := boxes1 w1 zeroSt.cells 176
      have hV6' : Hid (w1.alloc (.cells #[.int .i64 0, .int .i64 0, .bool false, .int .i64 0, .slice none 0 0, .slice none 0 0, .bool false, .int .i64 0, .slice none 0 0, .slice none 0 0, .bool false, .int .i64 0, .slice none 0 0, .slice none 0 0, .bool false, .int .i64 0, .slice none 0 0, .slice none 0 0, .bool false, .bool false] 176) = V6) := hV6.out
      obtain ⟨W6, hW6⟩ : ∃ W6, Hid (V6.drew = W6) := ⟨_, rfl⟩
      go_simp
      rw [hV6'.out, hW6.out]
      have b6 : Box W6 w1.heap.size zeroSt.cells 176 := by rw [← hW6.out]; exact b6'.drewN 1
      have N6 : Below w1.heap.size w1 W6 := by rw [← hW6.out]; exact hb6'.drew
      have aP := a1.below N6
      have hoX0 := a1.new (Nat.le_refl w1.heap.size)
      refine hK.out _ _ (⟨HSS.out _ _ aP rfl, trivial⟩) (fun hHeld => ?_)
      clear hK K hV6 hV6' hW6 b6' hb6' hs6
      try simp only [Act.put, List.getElem_toArray, List.getElem_cons_zero, List.getElem_cons_succ, List.setIfInBounds_toArray, List.set_cons_zero, List.set_cons_succ]
      have pP := aP.poolAt
      rw [hhd'] at pP
      have C5 := l6Bring_any 0 W6.heap.size E 136 e.cells TE e.aS e.cS e.seats hd n pg W6 pP (Nat.zero_le _) hlen hhb h4 (HRD.out _ aP) hfit
      clear pP
      refine wpAnyH_ready (rs := [10]) (by kernel_rfl) (by simp) ?_
      refine AllReadyH.cons rfl (fun K hK => ?_) AllReadyH.nil
      go_simp
      refine C5.mono ?_
      clear C5
      rintro r w5 ⟨ts, a', c', hand', old, went, rfl, hbv, br⟩
      have s5 := br.step aP
      have HOE : Hid (∀ j ∈ old.blocks, j ≠ E ∧ j < w1.heap.size) := fun j hj => ⟨fun e1 => h.off (EngA.mem_pool (by rw [← e1]; exact br.wentB j hj)), a1.lt j (EngA.mem_pool (br.wentB j hj))⟩
      have oo5 := br.went
      have q5 := HSS.out _ _ s5.at' rfl
      have hs5 := s5.size
      have b65 := s5.boxes b6 hoX0
      have hoX := s5.off b6.lt hoX0
      refine hK.out _ _ (⟨q5, trivial⟩) (fun hHeld => ?_)
      clear hK K
      try simp only [Act.put, List.getElem_toArray, List.getElem_cons_zero, List.getElem_cons_succ, List.setIfInBounds_toArray, List.set_cons_zero, List.set_cons_succ]
      refine wpAnyH_take (i := 11) (v := .tuple #[.agg old.cells.toArray, .bool went]) rfl (by kernel_rfl) (by kernel_rfl) (by kernel_rfl) (fun _ _ _ h => h) (Or.inl ⟨by rfl, ?_⟩) hHeld ?_
      · intro w' hSw
        go_simp <;> rfl
      try simp only [Act.put, List.getElem_toArray, List.getElem_cons_zero, List.getElem_cons_succ, List.setIfInBounds_toArray, List.set_cons_zero, List.set_cons_succ]
      refine wpAnyH_take (i := 12) (v := .agg old.cells.toArray) rfl (by kernel_rfl) (by kernel_rfl) (by kernel_rfl) (fun _ _ _ h => h) (Or.inl ⟨by rfl, ?_⟩) hHeld ?_
      · intro w' hSw
        go_simp <;> rfl
      try simp only [Act.put, List.getElem_toArray, List.getElem_cons_zero, List.getElem_cons_succ, List.setIfInBounds_toArray, List.set_cons_zero, List.set_cons_succ]
      refine wpAnyH_take (i := 13) (v := .bool went) rfl (by kernel_rfl) (by kernel_rfl) (by kernel_rfl) (fun _ _ _ h => h) (Or.inl ⟨by rfl, ?_⟩) hHeld ?_
      · intro w' hSw
        go_simp <;> rfl
      try simp only [Act.put, List.getElem_toArray, List.getElem_cons_zero, List.getElem_cons_succ, List.setIfInBounds_toArray, List.set_cons_zero, List.set_cons_succ]
      obtain ⟨W8, hW8, hw8, hs8, HT8, _, bo⟩ := seat_out old _ rfl b65
      have s51 : EngStep E e w1 (e.withPool ts a' c' hand') w5 := EngStep.after N6 s5
      have S8 : EngStep E e w (e.withPool ts a' c' hand') W8 := EngStep.after hb1 (EngStep.put s51 hw8 hoX (Nat.le_refl _))
      have tX : Touch [w1.heap.size] w5 W8 := ⟨hw8.os, hw8.tape, hw8.output, hw8.size, fun j hj hn => hw8.block j hj (fun hh => hn (by simp; omega))⟩
      have oo8 : old.own W8 0 w5.heap.size := oo5.touch tX (fun j hj hk => by have := (HOE.out j hj).2; have := List.mem_singleton.1 hk; omega)
      have HRX : Hid (W8.rangeAt w1.heap.size 0 old.cells) := Box.range [] old.cells [] (by simpa using bo)
      have hW8' : Hid (w5.setCells w1.heap.size 0 old.cells.toArray.toList = W8) := hW8.out
      refine wpAnyH_ready (rs := [15]) (by kernel_rfl) (by simp) ?_
      refine AllReadyH.cons rfl (fun K hK => ?_) AllReadyH.nil
      rw [if_pos (by rfl)]
      refine wp_store_mid 176 (.tmp 6) (.tmp 37) rfl w1.heap.size 0 old.cells.toArray rfl rfl HT8.out (seat_info old) (seat_one old) ?_
      rw [hW8'.out]
      refine hK.out _ _ (⟨HSS.out _ _ S8.at' rfl, trivial⟩) (fun hHeld => ?_)
      clear hK K
      try simp only [Act.put, List.getElem_toArray, List.getElem_cons_zero, List.getElem_cons_succ]
      refine wpAnyH_take (i := 16) (v := .bool went) rfl (by kernel_rfl) (by kernel_rfl) (by kernel_rfl) (fun _ _ _ h => h) (Or.inl ⟨by rfl, ?_⟩) hHeld ?_
      · intro w' hSw
        go_simp <;> rfl
      try simp only [Act.put, List.getElem_toArray, List.getElem_cons_zero, List.getElem_cons_succ, List.setIfInBounds_toArray, List.set_cons_zero, List.set_cons_succ]
      refine wpAnyH_done (by kernel_rfl) ?_ _
      clear hW8' hW8 hw8 hs8 HT8 b6 b65 s5 s51 q5 br aP oo5 ND tX hoX hoX0 N6
      generalize w1.heap.size = X at *
      have r8 := HRX.out
      have d8 := bo.cell 18 _ (show old.cells[18]? = some (.bool old.dirty) from rfl)
      have HFV : Hid (fetchV e.v n = ((if went = true ∧ old.v.dirty = true then writeV (e.withPool ts a' c' hand').v old.v else (e.withPool ts a' c' hand').v), seatedOf (if went = true ∧ old.v.dirty = true then writeV (e.withPool ts a' c' hand').v old.v else (e.withPool ts a' c' hand').v).seats n)) := by
        rw [Hid, fetchV, if_neg (by rw [show e.v.seats = e.seats.map SeatA.v from rfl, HNEG.out]; omega)]
        have e1 : e.v.seats = e.seats.map SeatA.v := rfl
        have e2 : e.v.hand.toNat = hd := by rw [hhd]; rfl
        have e3 : e.v.disk.getD n (0, []) = (pg.lsn, pg.ss.map (·.v)) := HPG.out
        simp only [e1, e2, e3, hbv.out]
        rfl
      have HSE : Hid (∀ u (e1 : EngA), EngAt u E e1 → e1.seats.length ≤ 3 → Calls Tryz.prog 132 #[.agg #[.slice e1.aS e1.seats.length e1.cS, .int .i64 e1.hand], .int .i64 n] u fun r w' => r = .returned (.int .i64 (seatedOf (e1.seats.map SeatA.v) n)) ∧ Below u.heap.size u w') := fun u e1 hu hl1 => specSeated_any e1.aS e1.cS e1.seats e1.hand n u hu.own.pool.reads (by omega)
      have HTL : Hid (ts.length ≤ 3) := by
        have h1 := bring_len (e.seats.map SeatA.v) hd ⟨n, pg.lsn, pg.ss.map (·.v), false, true⟩ (by rw [List.length_map]; exact hlen)
        rw [hbv.out] at h1
        rw [Hid]
        simpa using h1
      have HOK : Hid (went = true → ∃ m : Nat, old.no = m ∧ m < 8 ∧ Fit old.ss) := fun hwt => by
        have h1 := bring_old (e.seats.map SeatA.v) hd ⟨n, pg.lsn, pg.ss.map (·.v), false, true⟩ (by rw [hbv.out]; exact hwt) hhb
        rw [hbv.out] at h1
        obtain ⟨s0, hs0, e1, e2⟩ := h1
        obtain ⟨m, hm, hm8⟩ := hp.nos s0 hs0
        exact ⟨m, by rw [← hm, ← e1]; rfl, hm8, fit_of (by have := hp.fitS s0 hs0; rw [← e2] at this; exact this)⟩
      have HOR : Hid (∀ u, Touch [E] W8 u → old.reads u) := fun u hu => (oo8.touch hu (fun j hj hk => (HOE.out j hj).1 (List.mem_singleton.1 hk))).reads
      have HIQ8 : Hid ((Tryz.prog.info? 102).map (·.size) = some [Value.slice a' ts.length c', .int .i64 (hand' : Int)].length) := by rw [Hid]; kernel_rfl
      have HRQ8 : Hid (∀ u (e1 : EngA), EngAt u E e1 → u.rangeAt E 136 [.slice e1.aS e1.seats.length e1.cS, .int .i64 e1.hand]) := HRQ
      clear HRX hHeld bo
      by_cases hw : went = true
      · subst hw
        by_cases hdi : old.dirty = true
        · rw [hdi] at d8
          obtain ⟨m, hm, hm8, hfit⟩ := HOK.out rfl
          have C7 := l7Write_any E (e.withPool ts a' c' hand') old W8 S8.at' m hm hm8 HOR.out hfit
          clear HOK HOR hm
          go_wp2_with (first | (guard_target = wpList _ _ _ (Oper.mk (some 45) _ _ _ _ _ :: _) _ _; refine wpList_load_mid rfl 176 (.tmp 6) rfl X 0 rfl old.cells _ r8 Tryz.underlying176 rfl (seat_info old) ?_) | fail)
          refine C7.mono ?_
          clear C7 d8 r8
          rintro r w9 ⟨⟨v9, rfl⟩, e9, he9, hl9, s9⟩
          have S9 := S8.trans s9
          have hq : e9.seats.length ≤ 3 := by
            have h1 := congrArg (fun x : EngV => x.seats.length) he9.out
            simp only [EngA.v, writeV, EngA.withPool, List.length_map] at h1
            have := HTL.out
            omega
          have C9 := HSE.out w9 e9 s9.at' hq
          have HI9 : Hid ((Tryz.prog.info? 102).map (·.size) = some [Value.slice e9.aS e9.seats.length e9.cS, .int .i64 e9.hand].length) := by rw [Hid]; kernel_rfl
          have r9 := HRQ8.out w9 e9 s9.at'
          have HEV : Hid (fetchV e.v n = (e9.v, seatedOf (e9.seats.map SeatA.v) n)) := by
            rw [Hid, HFV.out, if_pos (by first | exact ⟨rfl, hdi⟩ | exact ⟨trivial, hdi⟩), ← he9.out]
            rfl
          clear HFV HSE HTL s9 S8 oo8 hdi
          go_wp2_with (first | (guard_target = wpList _ _ _ (Oper.mk (some 50) _ _ _ _ _ :: _) _ _; refine wpList_load_mid rfl 102 (.tmp 49) rfl E 136 rfl _ _ r9 Tryz.underlying102 rfl HI9.out ?_) | fail)
          refine C9.mono ?_
          rintro r w10 ⟨rfl, hb10⟩
          go_wp2
          go_ret
          exact ⟨e9, _, rfl, HEV, hl9, S9.below hb10⟩
        · have hdf : old.dirty = false := by simpa using hdi
          rw [hdf] at d8
          have C9 := HSE.out W8 _ S8.at' HTL.out
          have r9 := HRQ8.out W8 _ S8.at'
          have HEV : Hid (fetchV e.v n = ((e.withPool ts a' c' hand').v, seatedOf (ts.map SeatA.v) n)) := by
            rw [Hid, HFV.out, if_neg (fun hh => hdi hh.2)]
            rfl
          clear HFV HSE HTL oo8 hdi hdf HOK HOR r8
          go_wp2_with (first | (guard_target = wpList _ _ _ (Oper.mk (some 50) _ _ _ _ _ :: _) _ _; refine wpList_load_mid rfl 102 (.tmp 49) rfl E 136 rfl _ _ r9 Tryz.underlying102 rfl HIQ8.out ?_) | fail)
          refine C9.mono ?_
          rintro r w10 ⟨rfl, hb10⟩
          go_wp2
          go_ret
          exact ⟨_, _, rfl, HEV, rfl, S8.below hb10⟩
      · have hwf : went = false := by simpa using hw
        subst hwf
        have C9 := HSE.out W8 _ S8.at' HTL.out
        have r9 := HRQ8.out W8 _ S8.at'
        have HEV : Hid (fetchV e.v n = ((e.withPool ts a' c' hand').v, seatedOf (ts.map SeatA.v) n)) := by
          rw [Hid, HFV.out, if_neg (fun hh => by cases hh.1)]
          rfl
        clear HFV HSE HTL oo8 HOK HOR r8 d8
        go_wp2_with (first | (guard_target = wpList _ _ _ (Oper.mk (some 50) _ _ _ _ _ :: _) _ _; refine wpList_load_mid rfl 102 (.tmp 49) rfl E 136 rfl _ _ r9 Tryz.underlying102 rfl HIQ8.out ?_) | fail)
        refine C9.mono ?_
        rintro r w10 ⟨rfl, hb10⟩
        go_wp2
        go_ret
        exact ⟨_, _, rfl, HEV, rfl, S8.below hb10⟩
  · have HF : Hid (fetchV e.v n = ({ e.v with seats := (e.seats.map SeatA.v).set k (hotV (e.seats.getD k zeroSt).v) }, (k : Int))) := by
      have e1 : e.v.seats = e.seats.map SeatA.v := rfl
      rw [Hid, fetchV, e1, hs, if_pos (by omega), Int.toNat_natCast, seatV_at]
    rw [List.length_map] at hk
    obtain ⟨g, W, hg, hgE, hW, hf, hr, st, tW, hsW⟩ := a1.seatSet k hk { (e.seats.getD k zeroSt) with hot := true } 19 (.bool true) (by omega) rfl rfl
    have x0 : w1.cell? ⟨E, 136, none⟩ = some (.slice (some ⟨g, 0, none⟩) e.seats.length e.cS) := by rw [← hg]; exact EngA.cell_at a1.shape a1.box 0 _ rfl
    have x1 := hr 19 _ rfl
    have f1 := hf (k * 20 + 19)
    have hkk : (k : Int) < (e.seats.length : Int) := by omega
    have hk0 : (0 : Int) ≤ (k : Int) := by omega
    have HS : Hid (∃ (e' : EngA) (k' : Int), Ending.returned (.int .i64 (k : Int)) = .returned (.int .i64 k') ∧ Hid (fetchV e.v n = (e'.v, k')) ∧ Hid (e'.log.recs = e.log.recs) ∧ EngStep E e w e' W) := by
      refine ⟨_, k, rfl, ?_, ?_, EngStep.after hb1 st⟩
      rotate_left
      · rfl
      rw [Hid, HF.out]
      simp only [EngA.v, EngA.withPool, List.map_set]
      rfl
    have hs' : seatedOf (e.seats.map SeatA.v) n = (k : Int) := hs
    clear hs hg hr hf tW hsW st HF
    rw [hs']
    clear hs' hno
    go_wp2_with fail
    rw [hW.out]
    go_ret
    exact HS.out
end Go.Proofs.YtickiokdcbeefaaGreatDoor

/- Appending a record whose lists lie apart, as a step of a region that draws its order. -/
namespace Go.Proofs.YtickiokdcbeefaaGreatDoor
open Go.RowKit

theorem run_append_recD {w : World} (ty : TypeId) (lo hi : Nat) (a : Option Addr) (c : Nat) (rs : List RecA) (hown : OwnRs w lo hi a c rs)
    (b off : Nat) (sc : Nat) (q : RecA) (hr : w.rangeAt b off q.cells) (l u : Nat) (hq : q.own w l u) (hl : lo ≤ l) (hd : ∀ k ∈ q.blocks, k ∉ blocksRs a c rs) (hu : u ≤ w.heap.size)
    (hb : rs.length + 1 ≤ 68719476736) (hlo : lo ≤ hi) :
    ∃ a' c' w', (Builtin.append_ #[24, 24] ty #[.slice a rs.length c, .slice (some ⟨b, off, none⟩) 1 sc]).run Tryz.prog w = .ok (.slice a' (rs ++ [q]).length c') w' ∧ OwnRs w' lo w'.heap.size a' c' (rs ++ [q]) ∧ w.grownBy w' (Value.slice a rs.length c).ownBlock ∧
      (∀ k, (Value.slice a' (rs ++ [q]).length c').ownBlock = some k → (Value.slice a rs.length c).ownBlock = some k ∨ k = w.heap.size) := by
  obtain ⟨i0, hi0, hz0, hz1, hz2⟩ := info_parts Tryz.infoRec
  have htop := hown.top
  obtain ⟨v', w', hrun, h1, h2, _, h5⟩ := run_append_own_at (P := Tryz.prog) w lo 24 ty 42 i0 (.agg zeroR.cells.toArray) 15 200 Tryz.underlying24 hi0 hz0 hz1 hz2 rfl (by decide) _ _ _ hown.row ⟨b, off, none⟩ 1 sc q.cells (by rfl) (by
    intro j v hj
    rw [Addr_add]
    exact hr j v hj) (oneR q) (by simp only [maxLen]; omega) (by omega) (by omega)
  have e : cellsRs rs ++ q.cells = cellsRs (rs ++ [q]) := by rw [cellsRs_app, cellsRs_cons]; simp [cellsRs]
  have e2 : rs.length + 1 = (rs ++ [q]).length := by simp
  rw [e, e2] at h1
  have sh : ∃ a' c', v' = .slice a' (rs ++ [q]).length c' := by
    rcases h1.2 with ⟨rfl, h0⟩ | ⟨g, cap, cur, rfl, _⟩
    · simp at h0
    · exact ⟨_, _, rfl⟩
  obtain ⟨a', c', rfl⟩ := sh
  have hsz := h2.size
  have ht : Touch (Value.slice a rs.length c).ownBlock.toList w w' := Touch.of_grown h2 (fun k hk => Option.mem_toList.2 hk)
  have hrow := h1.lt
  have hold : ∀ r ∈ rs, r.own w' lo w'.heap.size := fun r hr => ((hown.each r hr).touch ht (fun k hk hk' => (List.nodup_append.1 hown.apart).2.2 k hk' k (List.mem_flatMap.2 ⟨r, hr, hk⟩) rfl)).widen (Nat.le_refl _) (by omega) (Nat.le_refl _)
  have hnew : q.own w' lo w'.heap.size := (hq.touch ht (fun k hk hk' => hd k hk (List.mem_append.2 (.inl hk')))).widen (by omega) (by omega) (Nat.le_refl _)
  refine ⟨a', c', w', hrun, ⟨h1, Nat.le_refl _, fun k hk => (hrow k hk).2, fun r hr => ?_, ?_⟩, h2, fun k hk => h5.elim (fun h5 => .inl (by rw [← h5]; exact hk)) (fun h5 => by rw [h5] at hk; exact .inr (Option.some.inj hk).symm)⟩
  · rcases List.mem_append.1 hr with hr | hr
    · exact hold r hr
    · obtain rfl := List.mem_singleton.1 hr
      exact hnew
  · rw [List.flatMap_append, List.nodup_append, List.nodup_append]
    have hap := (List.nodup_append.1 hown.apart).2.1
    refine ⟨by cases (Value.slice a' (rs ++ [q]).length c').ownBlock <;> simp, ⟨hap, by simpa using hq.apart, fun x hx y hy e => ?_⟩, fun x hx y hy e => ?_⟩
    · simp only [List.flatMap_cons, List.flatMap_nil, List.append_nil] at hy
      subst e
      exact hd x hy (List.mem_append.2 (.inr hx))
    · have hx' := Option.mem_toList.1 hx
      subst e
      rcases List.mem_append.1 hy with hy | hy
      · obtain ⟨r, hr, hy⟩ := List.mem_flatMap.1 hy
        exact row_apart h1 (hold r hr) x hx' hy
      · simp only [List.flatMap_cons, List.flatMap_nil, List.append_nil] at hy
        exact row_apart h1 hnew x hx' hy

theorem step_append_recD {w : World} {ops : Array Oper} {o : Oper} {act : Act} {K : Act → World → Prop} {Q : Exit → Act → World → Prop} {E : Prop} (hgd : o.guard = none) (s x : Operand)
    (ho : o.op = .call { callee := .builtin .append, args := #[s, x], argTypes := #[24, 24] })
    (lo hi : Nat) (a : Option Addr) (c : Nat) (rs : List RecA) (hs : act.eval s = .slice a rs.length c) (hown : OwnRs w lo hi a c rs)
    (b off : Nat) (sc : Nat) (q : RecA) (hx : act.eval x = .slice (some ⟨b, off, none⟩) 1 sc) (hr : w.rangeAt b off q.cells) (l u : Nat) (hq : q.own w l u) (hl : lo ≤ l) (hd : ∀ k ∈ q.blocks, k ∉ blocksRs a c rs) (hu : u ≤ w.heap.size)
    (hb : rs.length + 1 ≤ 68719476736) (hlo : lo ≤ hi)
    (h : ∀ a' c' w', OwnRs w' lo w'.heap.size a' c' (rs ++ [q]) → w.grownBy w' (Value.slice a rs.length c).ownBlock → (∀ k, (Value.slice a' (rs ++ [q]).length c').ownBlock = some k → (Value.slice a rs.length c).ownBlock = some k ∨ k = w.heap.size) → K (act.put o.dst (.slice a' (rs ++ [q]).length c')) w') :
    if Region.wanted o (yielded ops act.tmps) = true then Oper.wp Tryz.prog o act w K Q else E := by
  have hw : Region.wanted o (yielded ops act.tmps) = true := by simp [Region.wanted, hgd]
  rw [if_pos hw]
  obtain ⟨a', c', w', hrun, h2, h3, h4⟩ := run_append_recD (w := w) o.type lo hi a c rs hown b off sc q hr l u hq hl hd hu hb hlo
  unfold Oper.wp
  simp [execOp, ho, resolve, invoke, builtin, hs, hx, hrun, Result.andThen]
  have := h a' c' w' h2 h3 h4
  rw [List.length_append, List.length_singleton] at this
  exact this
end Go.Proofs.YtickiokdcbeefaaGreatDoor
