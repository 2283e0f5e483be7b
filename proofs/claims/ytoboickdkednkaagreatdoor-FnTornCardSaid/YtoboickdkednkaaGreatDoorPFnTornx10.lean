/- Several texts in one, in their order. -/
import Derived.Test.YtoboickdkednkaaGreatDoorPFnTornx9
import Derived.Test.YtoboickdkednkaaGreatDoorPFnTornx3
import Derived.Test.YtoboickdkednkaaGreatDoorPFnTornx4
import Derived.Test.YtoboickdkednkaaGreatDoorPFnTornx1
set_option maxHeartbeats 8000000
set_option maxRecDepth 100000
namespace Go.Proofs.YtoboickdkednkaaGreatDoor
open Go.RowKit
attribute [local go_sem ↓] Go.wp_at_zero Go.wp_at_succ
def SeatA.setSlot (s : SeatA) (j : Nat) (x : SlotA) : SeatA := match j with
 | 0 => { s with s0 := x }
 | 1 => { s with s1 := x }
 | 2 => { s with s2 := x }
 | _ => { s with s3 := x }
theorem setSlot_ss (s : SeatA) (j : Nat) (hj : j < 4) (x : SlotA) : (s.setSlot j x).ss = s.ss.set j x := by
 match j, hj with
 | 0, _ => rfl
 | 1, _ => rfl
 | 2, _ => rfl
 | 3, _ => rfl
theorem setSlot_split (s : SeatA) (j : Nat) (hj : j < 4) (x : SlotA) : ∃ pre old post, s.cells = pre ++ (old ++ post) ∧ (s.setSlot j x).cells = pre ++ (x.cells ++ post) ∧ pre.length = 2 + j * 4 ∧ old.length = 4 := by
 match j, hj with
 | 0, _ => exact ⟨[.int .i64 s.no, .int .i64 s.lsn], s.s0.cells, s.s1.cells ++ (s.s2.cells ++ (s.s3.cells ++ [.bool s.dirty, .bool s.hot])), rfl, rfl, rfl, rfl⟩
 | 1, _ => exact ⟨.int .i64 s.no :: .int .i64 s.lsn :: s.s0.cells, s.s1.cells, s.s2.cells ++ (s.s3.cells ++ [.bool s.dirty, .bool s.hot]), rfl, rfl, rfl, rfl⟩
 | 2, _ => exact ⟨.int .i64 s.no :: .int .i64 s.lsn :: (s.s0.cells ++ s.s1.cells), s.s2.cells, s.s3.cells ++ [.bool s.dirty, .bool s.hot], rfl, rfl, rfl, rfl⟩
 | 3, _ => exact ⟨.int .i64 s.no :: .int .i64 s.lsn :: (s.s0.cells ++ (s.s1.cells ++ s.s2.cells)), s.s3.cells, [.bool s.dirty, .bool s.hot], rfl, rfl, rfl, rfl⟩
theorem setSlot_mem {s : SeatA} {j : Nat} (hj : j < 4) {x : SlotA} {k : Nat} (h : k ∈ (s.setSlot j x).blocks) : k ∈ s.blocks ∨ k ∈ x.blocks := by
 unfold SeatA.blocks at h ⊢
 rw [setSlot_ss s j hj] at h
 obtain ⟨y, hy, hk⟩ := List.mem_flatMap.1 h
 rcases List.mem_or_eq_of_mem_set hy with h1 | h1
 ·exact .inl (List.mem_flatMap.2 ⟨y, h1, hk⟩)
 ·rw [h1] at hk; exact .inr hk
theorem setSlot_own {w : World} {lo hi : Nat} {s : SeatA} (h : s.own w lo hi) (j : Nat) (hj : j < 4) {x : SlotA} (hx : x.own w lo hi) (hd : ∀ k ∈ x.blocks, k ∉ s.blocks) : (s.setSlot j x).own w lo hi := by
 unfold SeatA.own
 rw [setSlot_ss s j hj]
 have hlen : j < s.ss.length := by show j < 4; exact hj
 have e : s.ss.set j x = s.ss.take j ++ ([x] ++ s.ss.drop (j + 1)) := by rw [List.set_eq_take_append_cons_drop, if_pos hlen]; rfl
 have e0 : s.ss = s.ss.take j ++ ([s.ss[j]] ++ s.ss.drop (j + 1)) := by
  conv => lhs; rw [← List.take_append_drop j s.ss, List.drop_eq_getElem_cons hlen]
  rfl
 refine ⟨fun y hy => ?_, ?_⟩
 ·rcases List.mem_or_eq_of_mem_set hy with h1 | h1
  ·exact h.each y h1
  ·rw [h1]; exact hx
 ·have ha := h.apart
  unfold SeatA.blocks at ha hd
  rw [e]
  rw [e0] at ha hd
  simp only [List.flatMap_append] at ha hd ⊢
  refine nodup_part' ha (by simpa using SlotA.blocks_nodup hx) (fun k hk hm => hd k (by simpa using hk) (List.mem_append.2 (.inl hm))) (fun k hk hm => hd k (by simpa using hk) (List.mem_append.2 (.inr (List.mem_append.2 (.inr hm)))))
theorem OwnSts.slotSet {w : World} {lo hi g c : Nat} {A B : List SeatA} {z : SeatA} (h : OwnSts w lo hi (some ⟨g, 0, none⟩) c (A ++ z :: B)) (j : Nat) (hj : j < 4) (x : SlotA) (hx : x.own w lo hi) (hd : ∀ k ∈ x.blocks, k ∉ blocksSts (some ⟨g, 0, none⟩) c (A ++ z :: B)) :
  OwnSts (w.setCells g (A.length * 20 + (2 + j * 4)) x.cells) lo hi (some ⟨g, 0, none⟩) c (A ++ z.setSlot j x :: B) ∧ Touch [g] w (w.setCells g (A.length * 20 + (2 + j * 4)) x.cells) ∧ (w.setCells g (A.length * 20 + (2 + j * 4)) x.cells).heap.size = w.heap.size ∧ w.there g (A.length * 20 + (2 + j * 4)) 4 := by
 obtain ⟨pre, old, post, e1, e2, l1, l2⟩ := setSlot_split z j hj x
 have hrow := h.row
 have hlen : (A ++ z.setSlot j x :: B).length = (A ++ z :: B).length := by simp
 have c1 : cellsSts (A ++ z :: B) = (cellsSts A ++ pre) ++ (old ++ (post ++ cellsSts B)) := by rw [cellsSts_app, cellsSts_cons, e1]; simp
 have c2 : cellsSts (A ++ z.setSlot j x :: B) = (cellsSts A ++ pre) ++ (x.cells ++ (post ++ cellsSts B)) := by rw [cellsSts_app, cellsSts_cons, e2]; simp
 have hth : w.there g (A.length * 20 + (2 + j * 4)) 4 := fun i hi' => by
  have hn : A.length * 20 + (2 + j * 4) + i < (A ++ z :: B).length * 20 := by simp; omega
  refine ⟨?_, hrow.frozenAt _⟩
  rw [hrow.cellAt _ (by omega), List.getElem?_eq_getElem (by rw [cellsSts_len]; exact hn)]
  rfl
 rw [c1] at hrow
 obtain ⟨h1, h2⟩ := row_setCells x.cells (cellsSts A ++ pre) old (post ++ cellsSts B) w hrow (by rw [l2]; rfl)
 have hpl : (cellsSts A ++ pre).length = A.length * 20 + (2 + j * 4) := by rw [List.length_append, cellsSts_len, l1]
 rw [hpl] at h1 h2
 have hsz := setCells_heap g x.cells (A.length * 20 + (2 + j * 4)) w
 have ht : Touch [g] w (w.setCells g (A.length * 20 + (2 + j * 4)) x.cells) := Touch.of_grown h2 (fun k hk => by cases hk; simp)
 have hng : ∀ r ∈ A ++ z :: B, g ∉ r.blocks := fun r hr hk => (List.nodup_append.1 h.apart).2.2 g (by simp [Value.ownBlock]) g (List.mem_flatMap.2 ⟨r, hr, hk⟩) rfl
 have hgx : g ∉ x.blocks := fun hk => hd g hk (by simp [blocksSts, Value.ownBlock])
 have hz : (z.setSlot j x).own w lo hi := setSlot_own (h.each z (by simp)) j hj hx (fun k hk hm => hd k hk (List.mem_append.2 (.inr (List.mem_flatMap.2 ⟨z, by simp, hm⟩))))
 have tq : ∀ r : SeatA, r.own w lo hi → g ∉ r.blocks → r.own (w.setCells g (A.length * 20 + (2 + j * 4)) x.cells) lo hi := fun r hr hg => hr.touch ht (fun k hk hk' => hg (by rw [← List.mem_singleton.1 hk']; exact hk))
 refine ⟨⟨?_, ?_, ?_, fun r hr => ?_, ?_⟩, ht, hsz, hth⟩
 ·rw [hlen, c2]; exact h1
 ·rw [hsz]; exact h.top
 ·rw [hlen]; exact h.blk
 ·rcases List.mem_append.1 hr with hr | hr
  ·exact tq r (h.each r (by simp [hr])) (hng r (by simp [hr]))
  ·rcases List.mem_cons.1 hr with rfl | hr
   ·exact tq _ hz (fun hk => (setSlot_mem hj hk).elim (hng z (by simp)) hgx)
   ·exact tq r (h.each r (by simp [hr])) (hng r (by simp [hr]))
 ·rw [hlen]
  have ha := h.apart
  simp only [List.flatMap_append, List.flatMap_cons] at ha ⊢
  rw [← List.append_assoc] at ha ⊢
  refine nodup_part' ha hz.apart (fun k hk hm => ?_) (fun k hk hm => ?_)
  ·rcases setSlot_mem hj hk with h3 | h3
   ·exact (List.nodup_append.1 ha).2.2 k hm k (List.mem_append.2 (.inl h3)) rfl
   ·refine hd k h3 ?_
    simp only [blocksSts, List.flatMap_append, List.flatMap_cons, List.mem_append] at hm ⊢
    rcases hm with hm | hm
    ·exact .inl hm
    ·exact .inr (.inl hm)
  ·rcases setSlot_mem hj hk with h3 | h3
   ·exact (List.nodup_append.1 (List.nodup_append.1 ha).2.1).2.2 k h3 k hm rfl
   ·refine hd k h3 ?_
    simp only [blocksSts, List.flatMap_append, List.flatMap_cons, List.mem_append]
    exact .inr (.inr (.inr hm))
theorem EngAt.slotSet {w : World} {E : Nat} {e : EngA} (h : EngAt w E e) (k : Nat) (hk : k < e.seats.length) (j : Nat) (hj : j < 4) (x : SlotA) (hx : x.own w 0 w.heap.size) (hd : ∀ i ∈ x.blocks, i ∉ e.blocks) (hEx : E ∉ x.blocks) :
  ∃ g W, e.aS = some ⟨g, 0, none⟩ ∧ g ≠ E ∧ g < w.heap.size ∧ Hid (w.setCells g (k * 20 + (2 + j * 4)) x.cells = W) ∧ w.there g (k * 20 + (2 + j * 4)) 4 ∧ EngMore E e x.blocks w (e.withPool (e.seats.set k ((e.seats.getD k zeroSt).setSlot j x)) e.aS e.cS e.hand) W ∧ Touch [g] w W ∧ W.heap.size = w.heap.size := by
 obtain ⟨g, hg⟩ : ∃ g, e.aS = some ⟨g, 0, none⟩ := by
  rcases h.own.pool.row.2 with ⟨_, h0⟩ | ⟨g, cap', cur, hv, _⟩
  ·omega
  ·simp only [Value.slice.injEq] at hv; exact ⟨g, hv.1⟩
 have hmem : g ∈ blocksSts e.aS e.cS e.seats := by rw [hg]; simp [blocksSts, Value.ownBlock]
 have hgE : g ≠ E := fun e1 => h.off (by rw [← e1]; exact EngA.mem_pool hmem)
 have ho := h.own.pool
 rw [hg, seatD_split e.seats k hk] at ho
 obtain ⟨o2, t2, hsz, hth⟩ := ho.slotSet j hj x hx (fun i hi hm => hd i hi (EngA.mem_pool (by rw [hg, seatD_split e.seats k hk]; exact hm)))
 have hkl : (e.seats.take k).length = k := by rw [List.length_take]; omega
 rw [hkl, ← seat_set e.seats k _ hk] at o2
 rw [hkl] at t2 hsz hth
 have ap := h.apart
 have hE : ∀ i ∈ e.blocks, i ≠ E := fun i hi he => h.off (he ▸ hi)
 have hf : ∀ i ∈ blocksSts (some ⟨g, 0, none⟩) e.cS (e.seats.set k ((e.seats.getD k zeroSt).setSlot j x)), i ∈ blocksSts e.aS e.cS e.seats ∨ i ∈ x.blocks := fun i hi => by
  simp only [blocksSts, List.mem_append, Option.mem_toList, List.length_set] at hi
  rcases hi with hi | hi
  ·exact .inl (by rw [hg]; exact List.mem_append.2 (.inl (Option.mem_toList.2 hi)))
  ·obtain ⟨r, hr, hi⟩ := List.mem_flatMap.1 hi
   rcases List.mem_or_eq_of_mem_set hr with h1 | h1
   ·exact .inl (List.mem_append.2 (.inr (List.mem_flatMap.2 ⟨r, h1, hi⟩)))
   ·rw [h1] at hi
    rcases setSlot_mem hj hi with h2 | h2
    ·exact .inl (List.mem_append.2 (.inr (List.mem_flatMap.2 ⟨_, seatD_mem e.seats k hk, h2⟩)))
    ·exact .inr h2
 have nt : ∀ i ∈ e.blocks, i ∉ blocksSts e.aS e.cS e.seats → i ∉ [g] := fun i _ hn hm => hn (by rw [List.mem_singleton.1 hm]; exact hmem)
 refine ⟨g, _, hg, hgE, h.lt g (EngA.mem_pool hmem), rfl, hth, ⟨⟨?_, ⟨h.shape.eight, h.shape.four⟩, ⟨?_, ?_, ?_, ?_, ?_, ?_⟩, ?_⟩, ?_, ?_⟩, t2, hsz⟩
 ·have e1 : (e.withPool (e.seats.set k ((e.seats.getD k zeroSt).setSlot j x)) e.aS e.cS e.hand).cells = e.cells := by
   simp only [EngA.cells, EngA.tail, EngA.withPool, List.length_set]
  rw [e1]
  exact h.box.touch t2 (by simpa using fun e1 => hgE e1.symm)
 ·exact (h.own.disk.touch t2 (fun i hi => nt i (EngA.mem_disk hi) (ap.dp i hi))).widen (Nat.le_refl _) t2.size (Nat.le_refl _)
 ·show OwnSts _ 0 _ e.aS e.cS _
  rw [hg]
  exact o2.widen (Nat.le_refl _) (Nat.le_of_eq hsz.symm) (Nat.le_refl _)
 ·exact (h.own.log.touch t2 (fun i hi => nt i (EngA.mem_log hi) (fun hp => ap.pl i hp hi))).widen (Nat.le_refl _) t2.size (Nat.le_refl _)
 ·exact (h.own.txs.touch t2 (fun i hi => nt i (EngA.mem_txs (Option.mem_toList.2 hi)) (fun hp => ap.pt i hp (Option.mem_toList.2 hi)))).widen (Nat.le_refl _) t2.size (Nat.le_refl _)
 ·exact (h.own.holds.touch t2 (fun i hi => nt i (EngA.mem_holds (Option.mem_toList.2 hi)) (fun hp => ap.ph i hp (Option.mem_toList.2 hi)))).widen (Nat.le_refl _) t2.size (Nat.le_refl _)
 ·have ha := h.own.apart
  simp only [EngA.blocks, EngA.withPool] at ha ⊢
  refine nodup_part' ha (by rw [hg]; exact o2.apart) (fun i hi hm => ?_) (fun i hi hm => ?_)
  ·rw [hg] at hi
   rcases hf i hi with h1 | h1
   ·exact ap.dp i hm h1
   ·exact hd i h1 (EngA.mem_disk hm)
  ·rw [hg] at hi
   rcases hf i hi with h1 | h1
   ·simp only [List.mem_append] at hm
    rcases hm with hm | hm | hm
    ·exact ap.pl i h1 hm
    ·exact ap.pt i h1 hm
    ·exact ap.ph i h1 hm
   ·exact hd i h1 (by simp only [EngA.blocks, List.mem_append] at hm ⊢; exact .inr (.inr hm))
 ·intro hk'
  simp only [EngA.blocks, EngA.withPool, List.mem_append] at hk'
  have hoff := h.off
  simp only [EngA.blocks, List.mem_append] at hoff
  rcases hk' with hk' | hk' | hk'
  ·exact hoff (.inl hk')
  ·rw [hg] at hk'
   rcases hf E hk' with h1 | h1
   ·exact hoff (.inr (.inl h1))
   ·exact hEx h1
  ·exact hoff (.inr (.inr hk'))
 ·exact t2.mono (fun i hi => List.mem_cons_of_mem _ (List.mem_append.2 (.inl (EngA.mem_pool (by rw [List.mem_singleton.1 hi]; exact hmem)))))
 ·intro i hi
  simp only [EngA.blocks, EngA.withPool, List.mem_append] at hi ⊢
  rcases hi with hi | hi | hi
  ·exact .inl (.inl hi)
  ·rw [hg] at hi
   rcases hf i hi with h1 | h1
   ·exact .inl (.inr (.inl h1))
   ·exact .inr (.inl h1)
  ·exact .inl (.inr (.inr hi))
end Go.Proofs.YtoboickdkednkaaGreatDoor
namespace Go.Proofs.YtoboickdkednkaaGreatDoor
open Go.RowKit
attribute [local go_sem ↓] Go.wp_at_zero Go.wp_at_succ
def setSeatV (s : SeatV) (j : Nat) (x : SlotV) (lsn : Int) : SeatV := { s with ss := s.ss.set j x, lsn := lsn, dirty := true }
def applyV (e : EngV) (oid : Nat) (x : SlotV) (lsn : Int) : EngV :=
 let f := fetchV e (oid / 4)
 { f.1 with seats := f.1.seats.set f.2.toNat (setSeatV (f.1.seats.getD f.2.toNat zeroStV) (oid % 4) x lsn) }
theorem slot_one (x : SlotA) : x.cells.toArray.all (·.oneCell') = true := all_oneCell_toArray (fun v hv => by
 simp only [SlotA.cells, List.mem_cons, List.not_mem_nil, or_false] at hv
 rcases hv with rfl | rfl | rfl | rfl <;> rfl)
theorem getD_setSt (ls : List SeatA) (k : Nat) (s : SeatA) (hk : k < ls.length) : (ls.set k s).getD k zeroSt = s := by simp [List.getD, hk]
theorem apply_v (ls : List SeatA) (k j : Nat) (x : SlotA) (lsn : Int) (hk : k < ls.length) (hj : j < 4) :
  (((ls.set k ((ls.getD k zeroSt).setSlot j x)).set k { ((ls.set k ((ls.getD k zeroSt).setSlot j x)).getD k zeroSt) with lsn := lsn }).set k { (((ls.set k ((ls.getD k zeroSt).setSlot j x)).set k { ((ls.set k ((ls.getD k zeroSt).setSlot j x)).getD k zeroSt) with lsn := lsn }).getD k zeroSt) with dirty := true }).map SeatA.v = (ls.map SeatA.v).set k (setSeatV ((ls.map SeatA.v).getD k zeroStV) j x.v lsn) := by
 simp only [List.set_set, getD_setSt _ _ _ hk, List.map_set, seatV_at]
 congr 1
 match j, hj with
 | 0, _ => rfl
 | 1, _ => rfl
 | 2, _ => rfl
 | 3, _ => rfl
theorem l7Apply_any (E : Nat) (e : EngA) (o : Nat) (s : SlotA) (lsn : Int) (w : World) (h : EngAt w E e) (hp : e.v.poolOk) (h32 : o < 32) (hr : ∀ u e', EngAt u E e' → e'.log.recs = e.log.recs → Touch (E :: e.blocks) w u → s.reads u) (hl : Fit [s])
  (hseat : ∃ k : Nat, (fetchV e.v (o / 4)).2 = k ∧ k < (fetchV e.v (o / 4)).1.seats.length) :
  Calls Tryz.prog 130 #[.pointer (some ⟨E, 0, none⟩), .int .i64 o, .agg s.cells.toArray, .int .i64 lsn] w fun r w' => (∃ v, r = .returned v) ∧ ∃ e', Hid (e'.v = applyV e.v o s.v lsn) ∧ Hid (e'.log.recs = e.log.recs) ∧ EngStep E e w e' w' := by
 obtain ⟨W, hW, b0, hbW, hsW⟩ := boxes1 w s.cells 36
 have a1 := h.below hbW
 have hoff : Off E e w.heap.size := h.new (Nat.le_refl _)
 have C := l7Fetch_any E e (o / 4) W a1 hp (by omega)
 go_enter Tryz.func130, Tryz.ntmps130
 go_upto_region 1 with fail
 rw [hW.out]
 clear hW
 have C' : Calls Tryz.prog 119 #[.pointer (some ⟨E, 0, none⟩), .int .i64 ((o : Int) / 4)] W fun r w' => ∃ (e' : EngA) (k : Int), r = .returned (.int .i64 k) ∧ Hid (fetchV e.v (o / 4) = (e'.v, k)) ∧ Hid (e'.log.recs = e.log.recs) ∧ EngStep E e W e' w' := by
  rw [show (o : Int) / 4 = ((o / 4 : Nat) : Int) from by omega]; exact C
 clear C
 go_wp2_with fail
 refine C'.mono ?_
 clear C'
 rintro r w2 ⟨e1, k0, rfl, hf, hl1, s1⟩
 obtain ⟨k, hk0, hkl⟩ := hseat
 rw [hf.out] at hk0 hkl
 simp only at hk0 hkl
 subst hk0
 have hk : k < e1.seats.length := by simpa [EngA.v] using hkl
 clear hkl
 have hoW : Off E e w.heap.size := hoff
 have b2 := s1.boxes b0 hoff
 have S1 : EngStep E e w e1 w2 := EngStep.after hbW s1
 have r2 : s.reads w2 := hr w2 e1 s1.at' hl1.out S1.touch
 have hoff1 := s1.off b0.lt hoff
 have hlt2 : w.heap.size < w2.heap.size := b2.lt
 have hs1 := S1.size
 have ND : Below w2.heap.size w2 w2.drew := (Below.refl _ _).drew
 have a2 := s1.at'.below ND
 have b2' := b2.below ND b2.lt
 obtain ⟨g, hg⟩ : ∃ g, e1.aS = some ⟨g, 0, none⟩ := by
  rcases s1.at'.own.pool.row.2 with ⟨_, h0⟩ | ⟨g, cap', cur, hv, _⟩
  ·omega
  ·simp only [Value.slice.injEq] at hv; exact ⟨g, hv.1⟩
 have HSS : Hid (∀ u (e' : EngA), EngAt u E e' → e'.aS = e1.aS → e'.seats.length = e1.seats.length → e'.cS = e1.cS → Box u w.heap.size s.cells 36 → u.cell? ⟨E, 136, none⟩ = some (.slice (some ⟨g, 0, none⟩) e1.seats.length e1.cS) ∧ u.rangeAt w.heap.size 0 s.cells) := fun u e' hu h1 h2 h3 hb => ⟨by
  have := EngA.cell_at hu.shape hu.box 0 _ rfl
  rw [h1, h2, h3, hg] at this
  exact this, Box.range [] s.cells [] (by simpa using hb)⟩
 have HI : Hid ((Tryz.prog.info? 36).map (·.size) = some s.cells.length) := by rw [Hid]; kernel_rfl
 have hfI := hl s (by simp)
 have C := l3CopySlot_own s w2.drew (r2.below ND) hfI.1 hfI.2
 have HFV : Hid (fetchV e.v (o / 4) = (e1.v, (k : Int))) := hf.out
 clear hf a1 s1 r2 hr hsW hbW
 have hkk : (k : Int) < (e1.seats.length : Int) := by omega
 have hk0 : (0 : Int) ≤ (k : Int) := by omega
 have ho4 : ((o % 4 : Nat) : Int) < 4 := by omega
 have ho0 : (0 : Int) ≤ ((o % 4 : Nat) : Int) := by omega
 go_upto_region 2 with fail
 refine wp_region_held_drew (S := fun w' => w'.cell? ⟨E, 136, none⟩ = some (.slice (some ⟨g, 0, none⟩) e1.seats.length e1.cS) ∧ w'.rangeAt w.heap.size 0 s.cells) (by kernel_rfl) ?_ (fun hHeld => ?_)
 ·exact HSS.out _ _ a2 rfl rfl rfl b2'
 refine tk 0 (v := .pointer (some ⟨E, 0, none⟩)) rfl (Or.inl ⟨by rfl, ?_⟩) hHeld ?_
 ·intro w' hSw
  go_simp <;> rfl
 try simp only [Act.put, zA, zB, zD, zE, zF]
 refine tk 1 (v := .pointer (some ⟨E, 0, none⟩)) rfl (Or.inl ⟨by rfl, ?_⟩) hHeld ?_
 ·intro w' hSw
  go_simp <;> rfl
 try simp only [Act.put, zA, zB, zC, zD, zE, zF]
 refine tk 2 (v := .pointer (some ⟨E, 136, none⟩)) rfl (Or.inl ⟨by rfl, ?_⟩) hHeld ?_
 ·intro w' hSw
  go_simp <;> rfl
 try simp only [Act.put, zA, zB, zC, zD, zE, zF]
 refine tk 3 (v := .pointer (some ⟨E, 136, none⟩)) rfl (Or.inl ⟨by rfl, ?_⟩) hHeld ?_
 ·intro w' hSw
  go_simp <;> rfl
 try simp only [Act.put, zA, zB, zC, zD, zE, zF]
 refine tk 4 (v := .slice (some ⟨g, 0, none⟩) e1.seats.length e1.cS) rfl (Or.inl ⟨by rfl, ?_⟩) hHeld ?_
 ·intro w' hSw
  have hx := hSw.1
  go_simp <;> rfl
 try simp only [Act.put, zA, zB, zC, zD, zE, zF]
 refine tk 5 (v := .int .i64 k) rfl (Or.inl ⟨by rfl, ?_⟩) hHeld ?_
 ·intro w' hSw
  go_simp <;> rfl
 try simp only [Act.put, zA, zB, zC, zD, zE, zF]
 refine tk 6 (v := .int .i64 o) rfl (Or.inl ⟨by rfl, ?_⟩) hHeld ?_
 ·intro w' hSw
  go_simp <;> rfl
 try simp only [Act.put, zA, zB, zC, zD, zE, zF]
 refine tk 7 (v := .int .i64 ((o % 4 : Nat) : Int)) rfl (Or.inl ⟨by rfl, ?_⟩) hHeld ?_
 ·intro w' hSw
  go_simp <;> rfl
 try simp only [Act.put, zA, zB, zC, zD, zE, zF]
 refine tk 8 rfl (yieldsIf_load_mid (by rfl) _ _ rfl _ _ rfl s.cells _ (fun _ h => h.2) Tryz.underlying36 rfl HI.out) hHeld ?_
 try simp only [Act.put, zA, zB, zC, zD, zE, zF]
 refine tk 10 (v := .pointer (some ⟨g, k * 20, none⟩)) rfl (Or.inl ⟨by rfl, ?_⟩) hHeld ?_
 ·intro w' hSw
  go_simp <;> rfl
 try simp only [Act.put, zA, zB, zC, zD, zE, zF]
 refine tk 11 (v := .pointer (some ⟨g, k * 20 + 1, none⟩)) rfl (Or.inl ⟨by rfl, ?_⟩) hHeld ?_
 ·intro w' hSw
  go_simp <;> rfl
 try simp only [Act.put, zA, zB, zC, zD, zE, zF]
 refine tk 12 (v := .pointer (some ⟨g, k * 20 + 1 + 1, none⟩)) rfl (Or.inl ⟨by rfl, ?_⟩) hHeld ?_
 ·intro w' hSw
  go_simp <;> rfl
 try simp only [Act.put, zA, zB, zC, zD, zE, zF]
 refine wpAnyH_ready (rs := [9]) (by kernel_rfl) (by simp) ?_
 refine AllReadyH.cons rfl (fun K hK => ?_) AllReadyH.nil
 go_simp
 refine C.mono ?_
 clear C
 rintro r w4 ⟨x, rfl, hxv, ox, hb4⟩
 have N4 : Below w2.heap.size w2 w4 := ND.trans hb4
 have a4 := S1.at'.below N4
 have b4 := b2.below N4 b2.lt
 have hs4 := N4.size
 refine hK.out _ _ (HSS.out _ _ a4 rfl rfl rfl b4) (fun hHeld => ?_)
 clear hK K
 try simp only [Act.put, zA, zB, zC, zD, zE, zF]
 obtain ⟨j, hj⟩ : ∃ j : Nat, Hid (o % 4 = j) := ⟨_, rfl⟩
 have hj4 : j < 4 := by rw [← hj.out]; omega
 have ox4 : x.own w4 0 w4.heap.size := ox.widen (Nat.zero_le _) (Nat.le_refl _) (Nat.le_refl _)
 have hxb : ∀ i ∈ x.blocks, w2.heap.size ≤ i := fun i hi => (SlotA.blocks_lt ox i hi).1
 obtain ⟨g2, W5, hg2, hgE, hgw, hW5, hth, M5, t5, hs5⟩ := a4.slotSet k hk j hj4 x ox4 (fun i hi hm => by have := hxb i hi; have := S1.at'.lt i hm; omega) (fun hi => by have := hxb E hi; have := S1.at'.box.lt; omega)
 obtain rfl : g2 = g := by rw [hg] at hg2; cases hg2; rfl
 have b5 := b4.touch t5 (by simp; exact fun e => hoff1.2 (EngA.mem_pool (by rw [hg, e]; simp [blocksSts, Value.ownBlock])))
 have S5 : EngStep E e w (e1.withPool (e1.seats.set k ((e1.seats.getD k zeroSt).setSlot j x)) e1.aS e1.cS e1.hand) W5 := EngMore.step (S1.below N4) M5 (fun i hi => by have := hxb i hi; omega)
 have hW5' : Hid (w4.setCells g2 (k * 20 + 1 + 1 + j * 4) x.cells.toArray.toList = W5) := by rw [Hid, ← hW5.out]; congr 1; omega
 have hth' : Hid (w4.there g2 (k * 20 + 1 + 1 + j * 4) x.cells.toArray.size) := by rw [show k * 20 + 1 + 1 + j * 4 = k * 20 + (2 + j * 4) by omega]; exact hth
 have HI5 : Hid ((Tryz.prog.info? 36).map (·.size) = some x.cells.toArray.size) := by rw [Hid]; kernel_rfl
 have HSF : Hid (_ ∧ _) := HSS.out _ _ S5.at' rfl (by simp [EngA.withPool]) rfl b5
 have ej : (o : Int) % 4 = (j : Int) := by have := hj.out; omega
 rw [ej]
 clear ej ho4 ho0
 have hj4' : (j : Int) < 4 := by omega
 have hj0 : (0 : Int) ≤ (j : Int) := by omega
 refine tk 13 (v := .pointer (some ⟨g2, k * 20 + 1 + 1 + j * 4, none⟩)) rfl (Or.inl ⟨by rfl, ?_⟩) hHeld ?_
 ·intro w' hSw
  go_simp <;> rfl
 try simp only [Act.put, zA, zB, zC, zD, zE, zF]
 refine wpAnyH_ready (rs := [14]) (by kernel_rfl) (by simp) ?_
 refine AllReadyH.cons rfl (fun K hK => ?_) AllReadyH.nil
 rw [if_pos (by rfl)]
 refine wp_store_mid 36 (.tmp 26) (.tmp 22) rfl g2 (k * 20 + 1 + 1 + j * 4) x.cells.toArray rfl rfl hth'.out HI5.out (slot_one x) ?_
 rw [hW5'.out]
 refine hK.out _ _ HSF.out (fun hHeld => ?_)
 clear hK K
 try simp only [Act.put, zA, zB, zC]
 refine wpAnyH_done (by kernel_rfl) ?_ _
 clear hHeld hW5' hth' HI5 HSF hW5 hth t5 hs5 M5
 obtain ⟨e5, he5⟩ : ∃ e5, Hid (e1.withPool (e1.seats.set k ((e1.seats.getD k zeroSt).setSlot j x)) e1.aS e1.cS e1.hand = e5) := ⟨_, rfl⟩
 rw [he5.out] at S5
 have hk5 : k < e5.seats.length := by rw [← he5.out]; simpa [EngA.withPool] using hk
 have hl5 : e5.seats.length = e1.seats.length := by rw [← he5.out]; simp [EngA.withPool]
 have hc5 : e5.cS = e1.cS := by rw [← he5.out]; rfl
 have ha5 : e5.aS = some ⟨g2, 0, none⟩ := by rw [← he5.out]; exact hg
 obtain ⟨g3, W6, hg3, hgE3, hW6, hf6, hr6, st6, _, hs6⟩ := S5.at'.seatSet k hk5 { (e5.seats.getD k zeroSt) with lsn := lsn } 1 (.int .i64 lsn) (by omega) rfl rfl
 obtain rfl : g3 = g2 := by rw [ha5] at hg3; cases hg3; rfl
 obtain ⟨e6, he6⟩ : ∃ e6, Hid (e5.withPool (e5.seats.set k { (e5.seats.getD k zeroSt) with lsn := lsn }) e5.aS e5.cS e5.hand = e6) := ⟨_, rfl⟩
 rw [he6.out] at st6
 have S6 := S5.trans st6
 have hk6 : k < e6.seats.length := by rw [← he6.out]; simpa [EngA.withPool] using hk5
 have ha6 : e6.aS = some ⟨g3, 0, none⟩ := by rw [← he6.out]; exact ha5
 obtain ⟨g4, W7, hg4, hgE4, hW7, hf7, hr7, st7, _, hs7⟩ := S6.at'.seatSet k hk6 { (e6.seats.getD k zeroSt) with dirty := true } 18 (.bool true) (by omega) rfl rfl
 obtain rfl : g4 = g3 := by rw [ha6] at hg4; cases hg4; rfl
 have S7 := S6.trans st7
 have x5 : W5.cell? ⟨E, 136, none⟩ = some (.slice (some ⟨g4, 0, none⟩) e1.seats.length e1.cS) := by
  have := EngA.cell_at S5.at'.shape S5.at'.box 0 _ rfl
  rw [ha5, hl5, hc5] at this
  exact this
 have x6 : W6.cell? ⟨E, 136, none⟩ = some (.slice (some ⟨g4, 0, none⟩) e1.seats.length e1.cS) := by
  have := EngA.cell_at S6.at'.shape S6.at'.box 0 _ rfl
  rw [ha6, ← he6.out] at this
  simp only [EngA.withPool, List.length_set, hl5, hc5] at this
  exact this
 have y5 := hr6 1 _ rfl
 have y6 := hr7 18 _ rfl
 have f5 := hf6 (k * 20 + 1)
 have f6 := hf7 (k * 20 + 18)
 have HEND : Hid (∃ e', Hid (e'.v = applyV e.v o s.v lsn) ∧ Hid (e'.log.recs = e.log.recs) ∧ EngStep E e w e' W7) := by
  refine ⟨_, ?_, ?_, S7⟩
  ·rw [Hid, ← he6.out, ← he5.out, applyV, HFV.out, hj.out]
   have ha := apply_v e1.seats k j x lsn hk hj4
   rw [hxv.out] at ha
   simp only [EngA.v, EngA.withPool, ha, Int.toNat_natCast]
  ·rw [Hid, ← hl1.out, ← he6.out, ← he5.out]; rfl
 clear hf6 hr6 hf7 hr7 st6 st7 S5 S6 S7 he5 he6 hl5 hc5 ha5 ha6 hg3 hg4 hs6 hs7 hg hg2
 go_upto_region 4 with fail
 rw [hW6.out]
 clear hW6 x5 y5 f5
 go_wp2_with fail
 rw [hW7.out]
 go_end0
 exact ⟨⟨_, rfl⟩, HEND.out⟩
end Go.Proofs.YtoboickdkednkaaGreatDoor
namespace Go.Proofs.YtoboickdkednkaaGreatDoor
open Go.RowKit
def endsV (e : EngV) (tx : Int) : EngV := { e with txs := e.txs.filter (fun l => l.tx != tx), holds := e.holds.filter (fun l => l.tx != tx) }
theorem ownL_lit0 (w : World) : OwnL (w.alloc (.cells #[] 112)) w.heap.size (w.heap.size + 1) (some ⟨w.heap.size, 0, none⟩) 0 [] :=
 ⟨World.ownsRow_lit w #[] 0 (Nat.le_refl _) (by simp [maxLen]) rfl, by simp, fun k hk => by cases hk; simp⟩
theorem ownH_lit0 (w : World) : OwnH (w.alloc (.cells #[] 178)) w.heap.size (w.heap.size + 1) (some ⟨w.heap.size, 0, none⟩) 0 [] :=
 ⟨World.ownsRow_lit w #[] 0 (Nat.le_refl _) (by simp [maxLen]) rfl, by simp, fun k hk => by cases hk; simp⟩
theorem EngAt.heldQ {w w' : World} {E : Nat} {e : EngA} (h : EngAt w E e) (ls : List HoldV) (a : Option Addr) (c : Nat) (bx : Box w' E (e.withHolds ls a c).cells TE) (ho : OwnH w' 0 w'.heap.size a c ls)
  (ht : Touch (E :: rowOf e.aH e.holds.length e.cH) w w') (hd : ∀ k ∈ rowOf a ls.length c, k ∉ e.blocks) (hEQ : E ∉ rowOf a ls.length c) : EngMore E e (rowOf a ls.length c) w (e.withHolds ls a c) w' := by
 have ap := h.apart
 have hE : ∀ k ∈ e.blocks, k ≠ E := fun k hk he => h.off (he ▸ hk)
 refine ⟨⟨bx, ⟨h.shape.eight, h.shape.four⟩, ⟨?_, ?_, ?_, ?_, ho, ?_⟩, ?_⟩, ?_, ?_⟩
 ·exact (h.own.disk.touch ht (fun k hk => not_part (hE k (EngA.mem_disk hk)) (ap.dh k hk))).widen (Nat.le_refl _) ht.size (Nat.le_refl _)
 ·exact (h.own.pool.touch ht (fun k hk => not_part (hE k (EngA.mem_pool hk)) (ap.ph k hk))).widen (Nat.le_refl _) ht.size (Nat.le_refl _)
 ·exact (h.own.log.touch ht (fun k hk => not_part (hE k (EngA.mem_log hk)) (ap.lh k hk))).widen (Nat.le_refl _) ht.size (Nat.le_refl _)
 ·exact (h.own.txs.touch ht (fun k hk => not_part (hE k (EngA.mem_txs (Option.mem_toList.2 hk))) (ap.th k (Option.mem_toList.2 hk)))).widen (Nat.le_refl _) ht.size (Nat.le_refl _)
 ·have h1 := h.own.apart
  simp only [EngA.blocks, EngA.withHolds] at h1 ⊢
  rw [← List.append_assoc, ← List.append_assoc, ← List.append_assoc] at h1 ⊢
  have h2 := nodup_part' (C := []) (by rw [List.append_nil]; exact h1) (rowOf_nodup a ls.length c) (fun k hk hm => hd k hk (by
   simp only [EngA.blocks, List.mem_append] at hm ⊢
   rcases hm with ((hm | hm) | hm) | hm
   ·exact .inl hm
   ·exact .inr (.inl hm)
   ·exact .inr (.inr (.inl hm))
   ·exact .inr (.inr (.inr (.inl hm))))) (by simp)
  rw [List.append_nil] at h2
  exact h2
 ·intro hk
  simp only [EngA.blocks, EngA.withHolds, List.mem_append] at hk
  have hoff := h.off
  simp only [EngA.blocks, List.mem_append] at hoff
  rcases hk with hk | hk | hk | hk | hk
  ·exact hoff (.inl hk)
  ·exact hoff (.inr (.inl hk))
  ·exact hoff (.inr (.inr (.inl hk)))
  ·exact hoff (.inr (.inr (.inr (.inl hk))))
  ·exact hEQ hk
 ·exact ht.mono (fun k hk => (List.mem_cons.1 hk).elim (fun h => by simp [h]) (fun h => List.mem_cons_of_mem _ (List.mem_append.2 (.inl (EngA.mem_holds h)))))
 ·intro k hk
  simp only [EngA.blocks, EngA.withHolds, List.mem_append] at hk ⊢
  rcases hk with hk | hk | hk | hk | hk
  ·exact .inl (.inl hk)
  ·exact .inl (.inr (.inl hk))
  ·exact .inl (.inr (.inr (.inl hk)))
  ·exact .inl (.inr (.inr (.inr (.inl hk))))
  ·exact .inr (.inl hk)
theorem takeL_succ (ls : List LiveV) (k : Nat) (h : k < ls.length) : ls.take (k + 1) = ls.take k ++ [ls.getD k zeroL] := by
 rw [List.take_succ_eq_append_getElem h]; simp [List.getD, h]
theorem takeH_succ (ls : List HoldV) (k : Nat) (h : k < ls.length) : ls.take (k + 1) = ls.take k ++ [ls.getD k zeroH] := by
 rw [List.take_succ_eq_append_getElem h]; simp [List.getD, h]
theorem grown_below {w u v : World} {n : Nat} {row : Option Nat} (hb : Below n w u) (hg : u.grownBy v row) (hr : ∀ k, row = some k → n ≤ k) (hn : n ≤ u.heap.size) : Below n w v :=
 ⟨hg.os.trans hb.os, hg.tape.trans hb.tape, hg.output.trans hb.output, Nat.le_trans hb.size hg.size, fun k hk => (hg.block k (by omega) (fun e => by have := hr k e.symm; omega)).trans (hb.block k hk)⟩
theorem l7Ends_any (E : Nat) (e : EngA) (tx : Int) (w : World) (h : EngAt w E e) (hT : e.txs.length ≤ 68719476736) (hH : e.holds.length ≤ 68719476736) :
  Calls Tryz.prog 128 #[.pointer (some ⟨E, 0, none⟩), .int .i64 tx] w fun r w' => (∃ v, r = .returned v) ∧ ∃ e', Hid (e'.v = endsV e.v tx) ∧ Hid (e'.log = e.log) ∧ EngStep E e w e' w' := by
 obtain ⟨W, hW, b0, hbW, hsW⟩ := boxes1 w [] 112
 have o0 : OwnL W w.heap.size W.heap.size (some ⟨w.heap.size, 0, none⟩) 0 [] := by
  have := ownL_lit0 w
  have e1 : w.alloc (.cells #[] 112) = W := hW.out
  rw [e1, ← hsW] at this
  exact this
 clear hsW b0
 go_enter Tryz.func128, Tryz.ntmps128
 go_wp2_with fail
 rw [hW.out]
 clear hW
 go_loopw [4, 5] (fun v i wr => ∃ (k : Nat) (a : Option Addr) (c : Nat) (L : List LiveV), i = .int .i64 k ∧ v = .slice a L.length c ∧ k ≤ e.txs.length ∧ L.length ≤ k ∧ Hid (L = (e.txs.take k).filter (fun l => l.tx != tx)) ∧ OwnL wr w.heap.size wr.heap.size a c L ∧ Below w.heap.size w wr)
  (fun _ i _ => e.txs.length - (intOf i).toNat)
 case atStart => exact ⟨0, _, 0, [], rfl, rfl, Nat.zero_le _, Nat.le_refl _, rfl, o0, hbW⟩
 case round =>
  obtain ⟨k, a, c, L, rfl, rfl, hk, hLk, hL, oL, hb⟩ := hrel
  clear o0 hbW
  have a1 := h.below hb
  have hs1 := hb.size
  have x0 : wr.cell? ⟨E, 140, none⟩ = some (.slice e.aT e.txs.length e.cT) := EngA.cell_at a1.shape a1.box 4 _ rfl
  by_cases hlt : k < e.txs.length
  ·obtain ⟨b, off, ha, hcell⟩ := a1.own.txs.reads (by intro e1; rw [e1] at hlt; simp at hlt)
   rw [ha] at x0
   obtain ⟨c0, c1, c2⟩ := hcell k hlt
   clear hcell
   have hkk : (k : Int) < (e.txs.length : Int) := by omega
   have hi0 : (0 : Int) ≤ (k : Int) := by omega
   have HF := takeL_succ e.txs k hlt
   have HF' : Hid (_ = _) := HF
   clear HF
   generalize e.txs.getD k zeroL = z at *
   cases hq : (z.tx != tx) with
   | true =>
    have HN : Hid (L ++ [z] = (e.txs.take (k + 1)).filter (fun l => l.tx != tx)) := by rw [Hid, HF'.out, List.filter_append, ← hL.out]; simp [hq]
    have ho2 := oL.below ((Below.refl _ _).alloc (Nat.le_refl _) (.cells #[.int .i64 z.tx, .int .i64 z.last, .bool z.aborts] 112))
    clear hL HF'
    go_wp2_with (at_builtin; refine append_lives rfl _ _ rfl w.heap.size wr.heap.size a c L rfl ho2 _ _ [z] rfl (readsL_one wr z _) (fun h => by cases h) (by simp; omega) (by simp; omega) ?_; intro a3 c3 y3 w3 hy3 ho3 hg3)
    go_roundw
    case rel => exact ⟨k + 1, a3, c3, y3, by go_num, rfl, by omega, by rw [hy3.out]; simp; omega, by rw [Hid, hy3.out]; exact HN.out, ho3, grown_below (hb.trans ((Below.refl _ _).alloc hs1 _)) hg3 (fun j hj => (oL.lt j hj).1) (by simp; omega)⟩
    case measure => simp [intOf]; omega
   | false =>
    have HN : Hid (L = (e.txs.take (k + 1)).filter (fun l => l.tx != tx)) := by rw [Hid, HF'.out, List.filter_append, ← hL.out]; simp [hq]
    clear hL HF'
    go_wp2_with fail
    go_roundw
    case rel => exact ⟨k + 1, a, c, L, by go_num, rfl, by omega, by omega, HN, oL, hb⟩
    case measure => simp [intOf]; omega
  ·have hkk : ¬ (k : Int) < (e.txs.length : Int) := by omega
   have HL : Hid (L = e.txs.filter (fun l => l.tx != tx)) := by rw [Hid, hL.out, List.take_of_length_le (by omega)]
   clear hL
   obtain ⟨wo, rfl⟩ : ∃ x, x = wr := ⟨_, rfl⟩
   obtain ⟨W1, hW1, b1, hb1, hs1'⟩ := boxes1 wo [] 178
   have o1 : OwnH W1 wo.heap.size W1.heap.size (some ⟨wo.heap.size, 0, none⟩) 0 [] := by
    have := ownH_lit0 wo
    have e1 : wo.alloc (.cells #[] 178) = W1 := hW1.out
    rw [e1, ← hs1'] at this
    exact this
   have hW1' : Hid (wo.alloc (.cells #[] 178) = W1) := hW1.out
   clear hs1' b1 hW1
   go_wp2_with fail
   rw [hW1'.out]
   clear hW1' x0
   go_loopw [6, 7] (fun v i wz => ∃ (m : Nat) (a' : Option Addr) (c' : Nat) (M : List HoldV), i = .int .i64 m ∧ v = .slice a' M.length c' ∧ m ≤ e.holds.length ∧ M.length ≤ m ∧ Hid (M = (e.holds.take m).filter (fun l => l.tx != tx)) ∧ OwnH wz wo.heap.size wz.heap.size a' c' M ∧ Below wo.heap.size wo wz)
    (fun _ i _ => e.holds.length - (intOf i).toNat)
   case atStart => exact ⟨0, _, 0, [], rfl, rfl, Nat.zero_le _, Nat.le_refl _, rfl, o1, hb1⟩
   case round =>
    obtain ⟨m, a', c', M, rfl, rfl, hm, hMm, hM, oM, hbz⟩ := hrel
    clear o1 hb1
    have az := a1.below hbz
    have hsz := hbz.size
    have oz := oL.below hbz
    have x0 : wr.cell? ⟨E, 141, none⟩ = some (.slice e.aH e.holds.length e.cH) := EngA.cell_at az.shape az.box 5 _ rfl
    by_cases hmt : m < e.holds.length
    ·obtain ⟨b, off, ha, hcell⟩ := az.own.holds.reads (by intro e1; rw [e1] at hmt; simp at hmt)
     rw [ha] at x0
     obtain ⟨c0, c1⟩ := hcell m hmt
     clear hcell
     have hmm : (m : Int) < (e.holds.length : Int) := by omega
     have hm0 : (0 : Int) ≤ (m : Int) := by omega
     have HF' : Hid (_ = _) := takeH_succ e.holds m hmt
     generalize e.holds.getD m zeroH = z at *
     cases hq : (z.tx != tx) with
     | true =>
      have HN : Hid (M ++ [z] = (e.holds.take (m + 1)).filter (fun l => l.tx != tx)) := by rw [Hid, HF'.out, List.filter_append, ← hM.out]; simp [hq]
      have ho2 := oM.below ((Below.refl _ _).alloc (Nat.le_refl _) (.cells #[.int .i64 z.tx, .int .i64 z.oid] 178))
      clear hM HF'
      go_wp2_with (at_builtin; refine append_holds rfl _ _ rfl wo.heap.size wr.heap.size a' c' M rfl ho2 _ _ [z] rfl (readsH_one wr z _) (fun h => by cases h) (by simp; omega) (by simp; omega) ?_; intro a3 c3 y3 w3 hy3 ho3 hg3)
      go_roundw
      case rel => exact ⟨m + 1, a3, c3, y3, by go_num, rfl, by omega, by rw [hy3.out]; simp; omega, by rw [Hid, hy3.out]; exact HN.out, ho3, grown_below (hbz.trans ((Below.refl _ _).alloc hsz _)) hg3 (fun j hj => (oM.lt j hj).1) (by simp; omega)⟩
      case measure => simp [intOf]; omega
     | false =>
      have HN : Hid (M = (e.holds.take (m + 1)).filter (fun l => l.tx != tx)) := by rw [Hid, HF'.out, List.filter_append, ← hM.out]; simp [hq]
      clear hM HF'
      go_wp2_with fail
      go_roundw
      case rel => exact ⟨m + 1, a', c', M, by go_num, rfl, by omega, by omega, HN, oM, hbz⟩
      case measure => simp [intOf]; omega
    ·have hmm : ¬ (m : Int) < (e.holds.length : Int) := by omega
     have HM : Hid (M = e.holds.filter (fun l => l.tx != tx)) := by rw [Hid, hM.out, List.take_of_length_le (by omega)]
     clear hM
     obtain ⟨W2, hW2, k2, t2, hs2⟩ := az.tailSet (e' := e.withTxs L a c) 4 (.slice a L.length c) rfl rfl
     have hW2' : Hid (wr.setCell ⟨E, 140, none⟩ (.slice a L.length c) = W2) := hW2.out
     have NZ : Below w.heap.size w wr := hb.trans (hbz.mono hs1)
     have hEl := h.box.lt
     have hnL : ∀ j ∈ rowOf a L.length c, w.heap.size ≤ j := fun j hj => (oL.lt j (Option.mem_toList.1 hj)).1
     have hnM : ∀ j ∈ rowOf a' M.length c', w.heap.size ≤ j := fun j hj => Nat.le_trans hs1 (oM.lt j (Option.mem_toList.1 hj)).1
     have oL2 : OwnL W2 0 W2.heap.size a c L := (oz.touch t2 (fun j hj hk => by have := (oz.lt j hj).1; have := List.mem_singleton.1 hk; omega)).widen (Nat.zero_le _) (by have := hbz.size; omega) (Nat.le_refl _)
     have oM2 : OwnH W2 wo.heap.size wr.heap.size a' c' M := oM.touch t2 (fun j hj hk => by have := (oM.lt j hj).1; have := List.mem_singleton.1 hk; omega)
     have T2 : Touch [E] w W2 := (Touch.of_below NZ).trans t2
     have S2 : EngStep E e w (e.withTxs L a c) W2 := h.lives L a c k2 oL2 (T2.mono (by simp)) (fun j hj => .inr (hnL j hj))
     obtain ⟨W3, hW3, k3, t3, hs3⟩ := S2.at'.tailSet (e' := (e.withTxs L a c).withHolds M a' c') 5 (.slice a' M.length c') rfl rfl
     have hW3' : Hid (W2.setCell ⟨E, 141, none⟩ (.slice a' M.length c') = W3) := hW3.out
     have oM3 : OwnH W3 0 W3.heap.size a' c' M := (oM2.touch t3 (fun j hj hk => by have := (oM2.lt j hj).1; have := List.mem_singleton.1 hk; omega)).widen (Nat.zero_le _) (by omega) (Nat.le_refl _)
     have HQD : Hid (∀ j ∈ rowOf a' M.length c', j ∉ (e.withTxs L a c).blocks) := fun j hj hm => by
      have h1 := hnM j hj
      rcases S2.fresh j hm with h2 | h2
      ·have := h.lt j h2; omega
      ·simp only [EngA.blocks, EngA.withTxs, List.mem_append] at hm
       rcases hm with hm | hm | hm | hm | hm
       ·have := h.lt j (EngA.mem_disk hm); omega
       ·have := h.lt j (EngA.mem_pool hm); omega
       ·have := h.lt j (EngA.mem_log hm); omega
       ·have h3 := (oL.lt j (Option.mem_toList.1 hm)).2; have h4 := (oM.lt j (Option.mem_toList.1 hj)).1; omega
       ·have := h.lt j (EngA.mem_holds hm); omega
     have HEND : Hid (∃ e', Hid (e'.v = endsV e.v tx) ∧ Hid (e'.log = e.log) ∧ EngStep E e w e' W3) := by
      refine ⟨(e.withTxs L a c).withHolds M a' c', ?_, rfl, ?_⟩
      ·rw [Hid]
       simp only [EngA.v, EngA.withHolds, EngA.withTxs, endsV, HL.out, HM.out]
      ·exact EngMore.step S2 (S2.at'.heldQ M a' c' k3 oM3 (t3.mono (by simp)) (fun j hj hm => HQD.out j hj hm) (fun hj => by have := hnM E hj; omega)) hnM
     have m0 : wr.cell? ⟨E, 140, none⟩ = some (.slice e.aT e.txs.length e.cT) := EngA.cell_at az.shape az.box 4 _ rfl
     have f0 := az.box.frozen 140
     have m1 : W2.cell? ⟨E, 141, none⟩ = some (.slice e.aH e.holds.length e.cH) := EngA.cell_at S2.at'.shape S2.at'.box 5 _ rfl
     have f1 := S2.at'.box.frozen 141
     clear S2 oM3 oM2 oL2 hW2 hW3
     go_upto_region 13 with fail
     rw [hW2'.out]
     go_wp2_with fail
     rw [hW3'.out]
     go_end0
     exact ⟨⟨_, rfl⟩, HEND.out⟩
def recE (tx prev kind : Int) : RecA := ⟨0, tx, prev, kind, 0, zeroS, zeroS, 0, [], none, 0⟩
theorem recE_blocks (tx prev kind : Int) : (recE tx prev kind).blocks = [] := rfl
theorem recE_own (tx prev kind : Int) (w : World) (lo hi : Nat) (h : hi ≤ w.heap.size) : (recE tx prev kind).own w lo hi := ⟨zero_own w lo hi h, zero_own w lo hi h, ownL_nil w lo hi h, by rw [recE_blocks]; exact List.nodup_nil⟩
theorem EngMore.plain {E : Nat} {e e' : EngA} {w w' : World} (m : EngMore E e [] w e' w') : EngStep E e w e' w' :=
 ⟨m.at', m.touch.mono (by simp), fun k hk => (m.fresh k hk).imp id (fun h => h.elim (fun h => by cases h) id)⟩
theorem v_recs_len {e : EngA} {x : EngV} (h : e.v = x) : e.log.recs.length = x.log.recs.length := by rw [← h]; simp [EngA.v, LogA.v]
theorem v_txs {e : EngA} {x : EngV} (h : e.v = x) : e.txs = x.txs := by rw [← h]; rfl
theorem v_holds {e : EngA} {x : EngV} (h : e.v = x) : e.holds = x.holds := by rw [← h]; rfl
theorem lastV_len (ls : List LiveV) (tx n : Int) : (lastV ls tx n).length = ls.length := by unfold lastV; split <;> simp
def recV (tx prev kind : Int) : RecV := (recE tx prev kind).v
def commitV (e : EngV) (tx : Int) : EngV :=
 let e1 := logV e (recV tx (lastOf e.log.recs tx) 2)
 let e2 : EngV := { e1 with log := e1.log.upTo ((e.log.recs.length : Int) + 1) }
 endsV (logV e2 (recV tx ((e.log.recs.length : Int) + 1) 5)) tx
theorem build_rec3 {w : World} {ops : Array Oper} {rest : List Oper} {dst : Option Nat} {ty : TypeId} {pos : String} {aft : Array Edge} {act : Act} {Q : Exit → Act → World → Prop} (x y : Operand) (tx prev kind : Int)
  (hx : act.eval x = .int .i64 tx) (hy : act.eval y = .int .i64 prev)
  (h : wpList Tryz.prog ops Q rest (act.put dst (.agg (recE tx prev kind).cells.toArray)) w) :
  wpList Tryz.prog ops Q ({ dst := dst, op := .build 39 #[(1, x), (2, y), (3, .const (.int .i64 kind))], type := ty, pos := pos, after := aft, guard := none } :: rest) act w := by
 refine wpList_plain rfl fun K hK => ?_
 unfold Oper.wp execOp
 simp only [List.map_toArray, List.map_cons, List.map_nil, hx, hy]
 have e : (Instr.build 39 #[(1, Value.int .i64 tx), (2, Value.int .i64 prev), (3, Value.int .i64 kind)]).run Tryz.prog w = .ok (.agg (recE tx prev kind).cells.toArray) w := run_build w _ _ _ (by kernel_rfl)
 have ec : act.eval (.const (.int .i64 kind)) = .int .i64 kind := rfl
 rw [ec]
 simp only [Sem.run_bind, e, Result.andThen_ok, Sem.run_pure]
 exact hK _ _ h
theorem EngAt.rangeLog {w : World} {E : Nat} {e : EngA} (h : EngAt w E e) : w.rangeAt E 138 e.log.cells := fun j v hv => by
 match j, hv with
 | 0, hv => cases hv; exact EngA.cell_at h.shape h.box 2 _ rfl
 | 1, hv => cases hv; exact EngA.cell_at h.shape h.box 3 _ rfl
theorem l7Commit_any (E : Nat) (e : EngA) (tx : Int) (w : World) (h : EngAt w E e) (hlen : e.log.recs.length + 2 ≤ 68719476736) (hT : e.txs.length ≤ 68719476736) (hH : e.holds.length ≤ 68719476736) :
  Calls Tryz.prog 115 #[.pointer (some ⟨E, 0, none⟩), .int .i64 tx] w fun r w' => (∃ v, r = .returned v) ∧ ∃ e', Hid (e'.v = commitV e.v tx) ∧ EngStep E e w e' w' := by
 have HI : Hid ((Tryz.prog.info? 26).map (·.size) = some e.log.cells.length) := log_info e.log
 have r0 := h.rangeLog
 have C0 := l7Last_any e.log tx w h.own.log.reads (by omega)
 go_enter Tryz.func115, Tryz.ntmps115
 go_wp2_with (first | (guard_target = wpList _ _ _ (Oper.mk (some 10) _ _ _ _ _ :: _) _ _; refine wpList_load_mid rfl 26 (.tmp 9) rfl E 138 rfl e.log.cells _ r0 Tryz.underlying26 rfl HI.out ?_) | fail)
 refine C0.mono ?_
 clear C0 r0
 rintro r w1 ⟨rfl, hb1⟩
 obtain ⟨L, hL⟩ : ∃ L, Hid (lastOf (e.log.recs.map RecA.v) tx = L) := ⟨_, rfl⟩
 rw [hL.out]
 have a1 := h.below hb1
 have C1 := l7Log_any E e (recE tx L 2) w1 a1 (recE_own _ _ _ _ _ _ (Nat.le_refl _)) (by simp [recE_blocks]) (by simp [recE_blocks]) (by omega) (by omega)
 go_wp2_with (first | (guard_target = wpList _ _ _ (Oper.mk (some 13) _ _ _ _ _ :: _) _ _; refine build_rec3 (.tmp 6) (.tmp 12) tx L 2 rfl rfl ?_) | fail)
 refine C1.mono ?_
 clear C1
 rintro r w2 ⟨rfl, e2, he2, _, m2⟩
 have S2 : EngStep E e w e2 w2 := EngStep.after hb1 m2.plain
 have C2 := l5ForceEng_any E e2 ((e.log.recs.length : Int) + 1) w2 S2.at'
 go_wp2_with fail
 refine C2.mono ?_
 clear C2 m2
 rintro r w3 ⟨⟨v3, rfl⟩, s3, _⟩
 have S3 := S2.trans s3
 have hl2 : e2.log.recs.length = e.log.recs.length + 1 := by rw [v_recs_len he2.out]; simp [logV, EngA.v, LogA.v]
 have ht2 : e2.txs.length = e.txs.length := by rw [v_txs he2.out]; simp only [logV]; rw [lastV_len]; rfl
 have hh2 : e2.holds = e.holds := by rw [v_holds he2.out]; rfl
 have HE2 : Hid (e2.v = logV e.v (recV tx L 2)) := he2.out
 have C3 := l7Log_any E (e2.withLog (e2.log.upTo ((e.log.recs.length : Int) + 1))) (recE tx ((e.log.recs.length : Int) + 1) 5) w3 s3.at' (recE_own _ _ _ _ _ _ (Nat.le_refl _)) (by simp [recE_blocks]) (by simp [recE_blocks]) (by show e2.log.recs.length + 1 ≤ _; omega) (by show e2.txs.length ≤ _; omega)
 have HH2 : Hid (e2.holds = e.holds ∧ e2.txs.length = e.txs.length) := ⟨hh2, ht2⟩
 clear s3 S2 he2 hl2 ht2 hh2
 go_wp2_with (first | (guard_target = wpList _ _ _ (Oper.mk (some 23) _ _ _ _ _ :: _) _ _; refine build_rec3 (.tmp 21) (.tmp 22) tx ((e.log.recs.length : Int) + 1) 5 rfl rfl ?_) | fail)
 refine C3.mono ?_
 clear C3
 rintro r w4 ⟨rfl, e4, he4, _, m4⟩
 have S4 := S3.trans m4.plain
 have C4 := l7Ends_any E e4 tx w4 S4.at' (by rw [v_txs he4.out]; simp only [logV]; rw [lastV_len]; show e2.txs.length ≤ _; rw [HH2.out.2]; exact hT) (by rw [v_holds he4.out]; show e2.holds.length ≤ _; rw [HH2.out.1]; exact hH)
 go_wp2_with fail
 refine C4.mono ?_
 clear C4
 rintro r w5 ⟨⟨v5, rfl⟩, e5, he5, _, s5⟩
 have HEND : Hid (e5.v = commitV e.v tx) := by
  rw [Hid, he5.out, he4.out]
  have e1 : (e2.withLog (e2.log.upTo ((e.log.recs.length : Int) + 1))).v = { e2.v with log := e2.v.log.upTo ((e.log.recs.length : Int) + 1) } := by
   simp only [EngA.v, EngA.withLog, LogA.upTo_v]
  rw [e1, HE2.out, ← hL.out]
  simp only [commitV, EngA.v, LogA.v, List.length_map, recV]
 have S5 := S4.trans s5
 clear he5 he4 HE2 HH2 m4 s5 S3 S4
 go_wp2
 go_end0
 exact ⟨⟨_, rfl⟩, e5, HEND, S5⟩
def cleanV (s : SeatV) : SeatV := { s with dirty := false }
def flushV (e : EngV) (n : Nat) : EngV :=
 if 0 ≤ seatedOf e.seats n ∧ (e.seats.getD (seatedOf e.seats n).toNat zeroStV).dirty = true then
  { writeV e (e.seats.getD (seatedOf e.seats n).toNat zeroStV) with seats := e.seats.set (seatedOf e.seats n).toNat (cleanV (e.seats.getD (seatedOf e.seats n).toNat zeroStV)) }
 else e
theorem EngAt.rangePool {w : World} {E : Nat} {e : EngA} (h : EngAt w E e) : w.rangeAt E 136 [.slice e.aS e.seats.length e.cS, .int .i64 e.hand] := fun j v hv => by
 match j, hv with
 | 0, hv => cases hv; exact EngA.cell_at h.shape h.box 0 _ rfl
 | 1, hv => cases hv; exact EngA.cell_at h.shape h.box 1 _ rfl
theorem v_seats {e : EngA} {x : EngV} (h : e.v = x) : e.seats.map SeatA.v = x.seats := by rw [← h]; rfl
theorem l7Flush_any (E : Nat) (e : EngA) (n : Nat) (w : World) (h : EngAt w E e) (hp : e.v.poolOk) (h8 : n < 8) :
  Calls Tryz.prog 117 #[.pointer (some ⟨E, 0, none⟩), .int .i64 n] w fun r w' => (∃ v, r = .returned v) ∧ ∃ e', Hid (e'.v = flushV e.v n) ∧ EngStep E e w e' w' := by
 have HIQ : Hid ((Tryz.prog.info? 125).map (·.size) = some [Value.slice e.aS e.seats.length e.cS, .int .i64 e.hand].length) := by rw [Hid]; kernel_rfl
 have r0 := h.rangePool
 have C1 := specSeated_any e.aS e.cS e.seats e.hand n w h.own.pool.reads (by have := hp.len; simp only [EngA.v, List.length_map] at this; omega)
 go_enter Tryz.func117, Tryz.ntmps117
 go_wp2_with (first | (guard_target = wpList _ _ _ (Oper.mk (some 8) _ _ _ _ _ :: _) _ _; refine wpList_load_mid rfl 125 (.tmp 7) rfl E 136 rfl _ _ r0 Tryz.underlying125 rfl HIQ.out ?_) | fail)
 refine C1.mono ?_
 clear C1 r0
 rintro r w1 ⟨rfl, hb1⟩
 have a1 := h.below hb1
 have e0 : e.v.seats = e.seats.map SeatA.v := rfl
 rcases seated_cases (e.seats.map SeatA.v) n with hs | ⟨k, hs, hk, hno⟩
 ·have HF : Hid (flushV e.v n = e.v) := by rw [Hid, flushV, e0, hs, if_neg (by omega)]
  rw [hs]
  clear hs e0
  go_wp2
  go_end0
  exact ⟨⟨_, rfl⟩, e, HF.out.symm, (EngStep.refl h).below hb1⟩
 ·rw [List.length_map] at hk
  rw [seatV_at] at hno
  obtain ⟨g, hg⟩ : ∃ g, e.aS = some ⟨g, 0, none⟩ := by
   rcases a1.own.pool.row.2 with ⟨_, h0⟩ | ⟨g, cap', cur, hv, _⟩
   ·omega
   ·simp only [Value.slice.injEq] at hv; exact ⟨g, hv.1⟩
  have x0 : w1.cell? ⟨E, 136, none⟩ = some (.slice (some ⟨g, 0, none⟩) e.seats.length e.cS) := by rw [← hg]; exact EngA.cell_at a1.shape a1.box 0 _ rfl
  have ho := a1.own.pool
  rw [hg] at ho
  have r1 := (row_seat ho.row rfl k hk).1
  have y1 := r1 18 _ (show (e.seats.getD k zeroSt).cells[18]? = some (.bool (e.seats.getD k zeroSt).dirty) from rfl)
  have hkk : (k : Int) < (e.seats.length : Int) := by omega
  have hk0 : (0 : Int) ≤ (k : Int) := by omega
  have hmem := seatD_mem e.seats k hk
  have oz := ho.each _ hmem
  have HB : Hid (E ∉ (e.seats.getD k zeroSt).blocks) := fun hm => a1.off (EngA.mem_pool (List.mem_append.2 (.inr (List.mem_flatMap.2 ⟨_, hmem, hm⟩))))
  have HFIT : Hid (Fit (e.seats.getD k zeroSt).ss) := fit_of (hp.fitS (e.seats.getD k zeroSt).v (List.mem_map_of_mem hmem))
  obtain ⟨z, hz⟩ : ∃ z, Hid (e.seats.getD k zeroSt = z) := ⟨_, rfl⟩
  rw [hz.out] at r1 y1 oz HB HFIT hno
  have HS : Hid (seatedOf (e.seats.map SeatA.v) n = (k : Int)) := hs
  rw [hs]
  clear hs ho hmem
  cases hdi : z.dirty with
  | false =>
   have HF : Hid (flushV e.v n = e.v) := by rw [Hid, flushV, e0, HS.out, Int.toNat_natCast, seatV_at, hz.out, if_neg (fun hh => by have h1 : z.dirty = true := hh.2; rw [hdi] at h1; cases h1)]
   rw [hdi] at y1
   clear hdi e0 HS
   go_wp2
   go_end0
   exact ⟨⟨_, rfl⟩, e, HF.out.symm, (EngStep.refl h).below hb1⟩
  | true =>
   have HF : Hid (flushV e.v n = { writeV e.v z.v with seats := (e.seats.map SeatA.v).set k (cleanV z.v) }) := by rw [Hid, flushV, e0, HS.out, Int.toNat_natCast, seatV_at, hz.out, if_pos ⟨by omega, hdi⟩]
   rw [hdi] at y1
   have C2 := l7Write_any E e z w1 a1 n hno h8 (fun u hu => (oz.touch hu (fun j hj hm => HB.out (by rw [← List.mem_singleton.1 hm]; exact hj))).reads) HFIT.out
   clear hdi e0 HS hno oz HB HFIT
   go_wp2_with (first | (guard_target = wpList _ _ _ (Oper.mk (some 32) _ _ _ _ _ :: _) _ _; refine wpList_load_mid rfl 172 (.tmp 31) rfl g (k * 20) rfl z.cells _ r1 Tryz.underlying172 rfl (seat_info z) ?_) | fail)
   refine C2.mono ?_
   clear C2 r1 y1 x0
   rintro r w2 ⟨⟨v2, rfl⟩, e2, he2, _, s2⟩
   have S2 : EngStep E e w e2 w2 := EngStep.after hb1 s2
   have hv2 : e2.seats.map SeatA.v = e.seats.map SeatA.v := v_seats he2.out
   have hl2 : e2.seats.length = e.seats.length := by have := congrArg List.length hv2; simpa using this
   have hk2 : k < e2.seats.length := by omega
   obtain ⟨g2, W3, hg2, hgE, hW3, hf3, hr3, st3, _, _⟩ := S2.at'.seatSet k hk2 { (e2.seats.getD k zeroSt) with dirty := false } 18 (.bool false) (by omega) rfl rfl
   have x2 : w2.cell? ⟨E, 136, none⟩ = some (.slice (some ⟨g2, 0, none⟩) e2.seats.length e2.cS) := by rw [← hg2]; exact EngA.cell_at S2.at'.shape S2.at'.box 0 _ rfl
   have y2 := hr3 18 _ rfl
   have f2 := hf3 (k * 20 + 18)
   have HEND : Hid (∃ e', Hid (e'.v = flushV e.v n) ∧ EngStep E e w e' W3) := by
    refine ⟨_, ?_, S2.trans st3⟩
    have ez : (e2.seats.getD k zeroSt).v = z.v := by rw [← seatV_at, hv2, seatV_at, hz.out]
    have e3 : ({ (e2.seats.getD k zeroSt) with dirty := false } : SeatA).v = cleanV z.v := by rw [← ez]; rfl
    have e4 : (e2.withPool (e2.seats.set k { (e2.seats.getD k zeroSt) with dirty := false }) e2.aS e2.cS e2.hand).v = { e2.v with seats := (e2.seats.map SeatA.v).set k (cleanV z.v) } := by
     simp only [EngA.v, EngA.withPool, List.map_set, e3]
    rw [Hid, e4, HF.out, hv2, he2.out]
   have hkk2 : (k : Int) < (e2.seats.length : Int) := by omega
   clear hf3 hr3 st3 hg2 hv2 hl2 S2 s2 HF he2
   go_wp2_with fail
   rw [hW3.out]
   go_end0
   exact ⟨⟨_, rfl⟩, HEND.out⟩
end Go.Proofs.YtoboickdkednkaaGreatDoor
namespace Go.Proofs.YtoboickdkednkaaGreatDoor
open Go.RowKit
attribute [local go_sem ↓] Go.wp_at_zero Go.wp_at_succ
def recC (ls : List LiveV) (a : Option Addr) (c : Nat) : RecA := ⟨0, 0, 0, 6, 0, zeroS, zeroS, 0, ls, a, c⟩
def recCV (ls : List LiveV) : RecV := (recC ls none 0).v
def checkV (e : EngV) : EngV :=
 let e1 := logV e (recCV (e.txs.filter (fun l => decide (0 < l.last))))
 { e1 with log := e1.log.upTo ((e.log.recs.length : Int) + 1) }
theorem recC_v (ls : List LiveV) (a : Option Addr) (c : Nat) : (recC ls a c).v = recCV ls := rfl
theorem recC_blocks (ls : List LiveV) (a : Option Addr) (c : Nat) : (recC ls a c).blocks = rowOf a ls.length c := rfl
theorem recC_own {w : World} {lo hi : Nat} {ls : List LiveV} {a : Option Addr} {c : Nat} (h : OwnL w lo hi a c ls) : (recC ls a c).own w lo hi := ⟨zero_own w lo hi h.2.1, zero_own w lo hi h.2.1, h, by rw [recC_blocks]; exact rowOf_nodup _ _ _⟩
theorem build_recC {w : World} {ops : Array Oper} {rest : List Oper} {dst : Option Nat} {ty : TypeId} {pos : String} {aft : Array Edge} {act : Act} {Q : Exit → Act → World → Prop}
  (h : wpList Tryz.prog ops Q rest (act.put dst (.agg (recC [] none 0).cells.toArray)) w) :
  wpList Tryz.prog ops Q ({ dst := dst, op := .build 39 #[(3, .const (.int .i64 6))], type := ty, pos := pos, after := aft, guard := none } :: rest) act w := by
 refine wpList_plain rfl fun K hK => ?_
 unfold Oper.wp execOp
 simp only [List.map_toArray, List.map_cons, List.map_nil]
 have e : (Instr.build 39 #[(3, Value.int .i64 6)]).run Tryz.prog w = .ok (.agg (recC [] none 0).cells.toArray) w := run_build w _ _ _ (by kernel_rfl)
 have ec : act.eval (.const (.int .i64 6)) = .int .i64 6 := rfl
 rw [ec]
 simp only [Sem.run_bind, e, Result.andThen_ok, Sem.run_pure]
 exact hK _ _ h
theorem l7Check_any (E : Nat) (e : EngA) (w : World) (h : EngAt w E e) (hlen : e.log.recs.length + 1 ≤ 68719476736) (hT : e.txs.length ≤ 68719476736) :
  Calls Tryz.prog 118 #[.pointer (some ⟨E, 0, none⟩)] w fun r w' => (∃ v, r = .returned v) ∧ ∃ e', Hid (e'.v = checkV e.v) ∧ EngStep E e w e' w' := by
 obtain ⟨W, hW, b0, hbW, hsW⟩ := boxes1 w zeroR.cells 39
 obtain ⟨W1, hW1, hw1, hs1, HT1, _, b1⟩ := rec_out (recC [] none 0) _ rfl b0
 have hW' : Hid (w.alloc (.cells #[.int .i64 0, .int .i64 0, .int .i64 0, .int .i64 0, .int .i64 0, .bool false, .int .i64 0, .slice none 0 0, .slice none 0 0, .bool false, .int .i64 0, .slice none 0 0, .slice none 0 0, .int .i64 0, .slice none 0 0] 39) = W) := hW.out
 have hW1' : Hid (W.setCells w.heap.size 0 (recC [] none 0).cells.toArray.toList = W1) := hW1.out
 have N1 : Below w.heap.size w W1 := hbW.trans (hw1.below (Nat.le_refl _) (by omega))
 have HI : Hid ((Tryz.prog.info? 39).map (·.size) = some 15) := by rw [Hid]; kernel_rfl
 have o1 : OwnL W1 (w.heap.size + 1) W1.heap.size none 0 [] := ownL_nil _ _ _ (Nat.le_refl _)
 obtain ⟨q0, hq0⟩ : ∃ q0, Hid (recC [] none 0 = q0) := ⟨_, rfl⟩
 have hW1q : Hid (W.setCells w.heap.size 0 q0.cells.toArray.toList = W1) := by rw [← hq0.out]; exact hW1'
 have HTq : Hid (W.there w.heap.size 0 q0.cells.toArray.size) := by rw [← hq0.out]; exact HT1
 have HOq := rec_one q0
 clear hW hW1 hW1' HT1 hw1 hs1 hsW b0
 go_enter Tryz.func118, Tryz.ntmps118
 go_wp2_with (first | (guard_target = wpList _ _ _ (Oper.mk (some 4) _ _ _ _ _ :: _) _ _; refine build_recC ?_; rw [hq0.out]) | (guard_target = wpList _ _ _ (Oper.mk none (Op.store _ (Operand.tmp 2) _) _ _ _ _ :: _) _ _; refine wpList_store_mid rfl 39 (.tmp 2) (.tmp 4) rfl w.heap.size 0 q0.cells.toArray rfl rfl (by rw [hW'.out]; exact HTq.out) HI.out HOq ?_; rw [hW'.out, hW1q.out]) | fail)
 clear hW' hW1q HTq HOq
 go_loopw [3] (fun i wr => ∃ (k : Nat) (a : Option Addr) (c : Nat) (L : List LiveV), i = .int .i64 k ∧ k ≤ e.txs.length ∧ L.length ≤ k ∧ Hid (L = (e.txs.take k).filter (fun l => decide (0 < l.last))) ∧ Box wr w.heap.size (recC L a c).cells 39 ∧ OwnL wr (w.heap.size + 1) wr.heap.size a c L ∧ Below w.heap.size w wr)
  (fun i _ => e.txs.length - (intOf i).toNat)
 case atStart => exact ⟨0, none, 0, [], rfl, Nat.zero_le _, Nat.le_refl _, rfl, b1, o1, N1⟩
 case round =>
  obtain ⟨k, a, c, L, rfl, hk, hLk, hL, bR, oL, hb⟩ := hrel
  clear b1 o1 N1
  have a1 := h.below hb
  have hs1 := hb.size
  have hlt1 := bR.lt
  have x0 : wr.cell? ⟨E, 140, none⟩ = some (.slice e.aT e.txs.length e.cT) := EngA.cell_at a1.shape a1.box 4 _ rfl
  by_cases hlt : k < e.txs.length
  ·obtain ⟨b, off, ha, hcell⟩ := a1.own.txs.reads (by intro e1; rw [e1] at hlt; simp at hlt)
   obtain ⟨c0, c1, c2⟩ := hcell k hlt
   have hkk : (k : Int) < (e.txs.length : Int) := by omega
   have hi0 : (0 : Int) ≤ (k : Int) := by omega
   have HF' : Hid (_ = _) := takeL_succ e.txs k hlt
   have HSS : Hid (∀ u, EngAt u E e → u.cell? ⟨E, 140, none⟩ = some (.slice (some ⟨b, off, none⟩) e.txs.length e.cT) ∧ u.rangeAt b (off + k * 3) (e.txs.getD k zeroL).cells) := fun u hu => by
    refine ⟨by rw [← ha]; exact EngA.cell_at hu.shape hu.box 4 _ rfl, ?_⟩
    obtain ⟨b', off', ha', hc'⟩ := hu.own.txs.reads (by intro e1; rw [e1] at hlt; simp at hlt)
    rw [ha] at ha'
    cases ha'
    obtain ⟨d0, d1, d2⟩ := hc' k hlt
    intro j v hv
    match j, hv with
    | 0, hv => cases hv; exact d0
    | 1, hv => cases hv; exact d1
    | 2, hv => cases hv; exact d2
   rw [ha] at x0
   clear hcell c0 c2
   generalize e.txs.getD k zeroL = z at *
   by_cases hq : 0 < z.last
   ·have HN : Hid (L ++ [z] = (e.txs.take (k + 1)).filter (fun l => decide (0 < l.last))) := by rw [Hid, HF'.out, List.filter_append, ← hL.out]; simp [hq]
    have HIL : Hid ((Tryz.prog.info? 112).map (·.size) = some z.cells.length) := by rw [Hid]; kernel_rfl
    have ND : Below wr.heap.size wr wr.drew := (Below.refl _ _).drew
    clear hL HF' ha
    go_upto_region 5 with fail
    clear x0 c1
    have bRD := bR.below ND bR.lt
    have y0 := bRD.cell 14 _ (show (recC L a c).cells[14]? = some (.slice a L.length c) from rfl)
    refine wp_region_held_drew (S := fun w' => w'.cell? ⟨E, 140, none⟩ = some (.slice (some ⟨b, off, none⟩) e.txs.length e.cT) ∧ w'.rangeAt b (off + k * 3) z.cells) (by kernel_rfl) ?_ (fun hHeld => ?_)
    ·exact HSS.out _ (a1.below ND)
    refine tk 0 (v := .pointer (some ⟨w.heap.size, 14, none⟩)) rfl (Or.inl ⟨by rfl, ?_⟩) hHeld ?_
    ·intro w' hSw
     go_simp <;> rfl
    try simp only [Act.put, zA, zB, zD, zE, zF]
    refine tk 2 (v := .pointer (some ⟨E, 0, none⟩)) rfl (Or.inl ⟨by rfl, ?_⟩) hHeld ?_
    ·intro w' hSw
     go_simp <;> rfl
    try simp only [Act.put, zA, zB, zC, zD, zE, zF]
    refine tk 3 (v := .pointer (some ⟨E, 0, none⟩)) rfl (Or.inl ⟨by rfl, ?_⟩) hHeld ?_
    ·intro w' hSw
     go_simp <;> rfl
    try simp only [Act.put, zA, zB, zC, zD, zE, zF]
    refine tk 4 (v := .pointer (some ⟨E, 140, none⟩)) rfl (Or.inl ⟨by rfl, ?_⟩) hHeld ?_
    ·intro w' hSw
     go_simp <;> rfl
    try simp only [Act.put, zA, zB, zC, zD, zE, zF]
    refine tk 5 (v := .slice (some ⟨b, off, none⟩) e.txs.length e.cT) rfl (Or.inl ⟨by rfl, ?_⟩) hHeld ?_
    ·intro w' hSw
     have hx := hSw.1
     go_simp <;> rfl
    try simp only [Act.put, zA, zB, zC, zD, zE, zF]
    refine tk 6 (v := .int .i64 k) rfl (Or.inl ⟨by rfl, ?_⟩) hHeld ?_
    ·intro w' hSw
     go_simp <;> rfl
    try simp only [Act.put, zA, zB, zC, zD, zE, zF]
    refine tk 7 (v := .pointer (some ⟨b, off + k * 3, none⟩)) rfl (Or.inl ⟨by rfl, ?_⟩) hHeld ?_
    ·intro w' hSw
     go_simp <;> rfl
    try simp only [Act.put, zA, zB, zC, zD, zE, zF]
    refine tk 8 (v := .agg #[.int .i64 z.tx, .int .i64 z.last, .bool z.aborts]) rfl (yieldsIf_load_mid (by rfl) _ _ rfl _ _ rfl z.cells _ (fun _ h => h.2) Tryz.underlying112 rfl HIL.out) hHeld ?_
    try simp only [Act.put, zA, zB, zC, zD, zE, zF]
    refine wpAnyH_ready (rs := [1, 9]) (by kernel_rfl) (by simp) ?_
    refine AllReadyH.cons rfl (fun K hK => ?_) (AllReadyH.cons rfl (fun K hK => ?_) AllReadyH.nil)
    ·go_simp
     refine hK.out _ _ (hHeld) (fun hHeld => ?_)
     clear hK K
     try simp only [Act.put, zA, zB, zC, zD, zE, zF]
     refine wpAnyH_ready (rs := [9]) (by kernel_rfl) (by simp) ?_
     refine AllReadyH.cons rfl (fun K hK => ?_) AllReadyH.nil
     go_simp
     obtain ⟨V5, hV5, b5', hb5, hs5⟩ := boxes1 wr [.int .i64 z.tx, .int .i64 z.last, .bool z.aborts] 112
     have hV5' : Hid (wr.alloc (.cells #[.int .i64 z.tx, .int .i64 z.last, .bool z.aborts] 112) = V5) := hV5.out
     rw [hV5'.out]
     obtain ⟨W5, hW5⟩ : ∃ W5, Hid (V5.drew = W5) := ⟨_, rfl⟩
     rw [hW5.out]
     have ND5 : Below wr.heap.size wr W5 := by rw [← hW5.out]; exact hb5.drew
     have r5 : ReadsL W5 (some ⟨wr.heap.size, 0, none⟩) [z] := by
      rw [← hW5.out]
      have h1 := (readsL_one wr z 112).below ((Below.refl _ _).drew)
      rw [hV5'.out] at h1
      exact h1
     have a5 := a1.below ND5
     have bR5 := bR.below ND5 bR.lt
     have oL5 := oL.below ND5
     have hs15 := ND5.size
     clear hs5 hb5 hW5 hV5 hV5' b5'
     refine hK.out _ _ (HSS.out _ a5) (fun hHeld => ?_)
     clear hK K
     try simp only [Act.put, zA, zB, zC, zD, zE, zF]
     clear y0 bRD
     refine wpAnyH_ready (rs := [10]) (by kernel_rfl) (by simp) ?_
     refine AllReadyH.cons rfl (fun K hK => ?_) AllReadyH.nil
     refine step_append_lives rfl (.tmp 24) (.tmp 32) rfl (w.heap.size + 1) wr.heap.size a c L rfl oL5 _ _ [z] rfl r5 (fun h => by cases h) (by simp; omega) (by omega) ?_
     intro a9 c9 y9 w9 hy9 o9 g9 f9
     have N9 : Below w.heap.size w w9 := grown_below (hb.trans (ND5.mono hs1)) g9 (fun j hj => by have := (oL.lt j hj).1; omega) (by omega)
     have a9' := h.below N9
     have bR9 : Box w9 w.heap.size (recC L a c).cells 39 := bR5.block (g9.block _ bR5.lt (fun e1 => by have := (oL.lt _ e1.symm).1; omega))
     have hs9 := g9.size
     refine hK.out _ _ (HSS.out _ a9') (fun hHeld => ?_)
     clear hK K g9
     try simp only [Act.put, zA, zB, zC, zD, zE, zF]
     refine tk 11 (v := .pointer (some ⟨w.heap.size, 14, none⟩)) rfl (Or.inl ⟨by rfl, ?_⟩) hHeld ?_
     ·intro w' hSw
      go_simp <;> rfl
     try simp only [Act.put, zA, zB, zC, zD, zE, zF]
     have m0 := bR9.cell 14 _ (show (recC L a c).cells[14]? = some (.slice a L.length c) from rfl)
     have mf0 := bR9.frozen 14
     obtain ⟨WF, hWF, kF, hwF, hsF⟩ := box_set bR9 14 (.slice a9 y9.length c9)
     have kF' : Box WF w.heap.size (recC y9 a9 c9).cells 39 := kF
     have hsFa := Nat.le_of_eq hsF
     have hsFb := Nat.le_of_eq hsF.symm
     clear hsF
     have oF : OwnL WF (w.heap.size + 1) WF.heap.size a9 c9 y9 := (o9.within hwF (.inr (Nat.le_refl _))).widen (Nat.le_refl _) (by omega) (Nat.le_refl _)
     have NF : Below w.heap.size w WF := N9.trans (hwF.below (Nat.le_refl _) (by omega))
     refine wpAnyH_ready (rs := [12]) (by kernel_rfl) (by simp) ?_
     refine AllReadyH.cons rfl (fun K hK => ?_) AllReadyH.nil
     go_simp
     rw [hWF.out]
     refine hK.out _ _ (HSS.out _ (h.below NF)) (fun hHeld => ?_)
     clear hK K
     try simp only [Act.put, zA, zB, zC]
     refine wpAnyH_done (by kernel_rfl) ?_ _
     clear m0 mf0 hWF hHeld
     go_wp2_with fail
     go_roundw
     case rel => exact ⟨k + 1, a9, c9, y9, by go_num, by omega, by rw [hy9.out]; simp; omega, by rw [Hid, hy9.out]; exact HN.out, kF', oF, NF⟩
     case measure => simp [intOf]; omega
    ·skip
     go_simp
     obtain ⟨V5, hV5, b5', hb5, hs5⟩ := boxes1 wr [.int .i64 z.tx, .int .i64 z.last, .bool z.aborts] 112
     have hV5' : Hid (wr.alloc (.cells #[.int .i64 z.tx, .int .i64 z.last, .bool z.aborts] 112) = V5) := hV5.out
     rw [hV5'.out]
     obtain ⟨W5, hW5⟩ : ∃ W5, Hid (V5.drew = W5) := ⟨_, rfl⟩
     rw [hW5.out]
     have ND5 : Below wr.heap.size wr W5 := by rw [← hW5.out]; exact hb5.drew
     have r5 : ReadsL W5 (some ⟨wr.heap.size, 0, none⟩) [z] := by
      rw [← hW5.out]
      have h1 := (readsL_one wr z 112).below ((Below.refl _ _).drew)
      rw [hV5'.out] at h1
      exact h1
     have a5 := a1.below ND5
     have bR5 := bR.below ND5 bR.lt
     have oL5 := oL.below ND5
     have hs15 := ND5.size
     clear hs5 hb5 hW5 hV5 hV5' b5'
     refine hK.out _ _ (HSS.out _ a5) (fun hHeld => ?_)
     clear hK K
     try simp only [Act.put, zA, zB, zC, zD, zE, zF]
     clear y0 bRD
     have y0 := bR5.cell 14 _ (show (recC L a c).cells[14]? = some (.slice a L.length c) from rfl)
     refine wpAnyH_ready (rs := [1]) (by kernel_rfl) (by simp) ?_
     refine AllReadyH.cons rfl (fun K hK => ?_) AllReadyH.nil
     go_simp
     refine hK.out _ _ (hHeld) (fun hHeld => ?_)
     clear hK K
     try simp only [Act.put, zA, zB, zC, zD, zE, zF]
     clear y0
     refine wpAnyH_ready (rs := [10]) (by kernel_rfl) (by simp) ?_
     refine AllReadyH.cons rfl (fun K hK => ?_) AllReadyH.nil
     refine step_append_lives rfl (.tmp 24) (.tmp 32) rfl (w.heap.size + 1) wr.heap.size a c L rfl oL5 _ _ [z] rfl r5 (fun h => by cases h) (by simp; omega) (by omega) ?_
     intro a9 c9 y9 w9 hy9 o9 g9 f9
     have N9 : Below w.heap.size w w9 := grown_below (hb.trans (ND5.mono hs1)) g9 (fun j hj => by have := (oL.lt j hj).1; omega) (by omega)
     have a9' := h.below N9
     have bR9 : Box w9 w.heap.size (recC L a c).cells 39 := bR5.block (g9.block _ bR5.lt (fun e1 => by have := (oL.lt _ e1.symm).1; omega))
     have hs9 := g9.size
     refine hK.out _ _ (HSS.out _ a9') (fun hHeld => ?_)
     clear hK K g9
     try simp only [Act.put, zA, zB, zC, zD, zE, zF]
     refine tk 11 (v := .pointer (some ⟨w.heap.size, 14, none⟩)) rfl (Or.inl ⟨by rfl, ?_⟩) hHeld ?_
     ·intro w' hSw
      go_simp <;> rfl
     try simp only [Act.put, zA, zB, zC, zD, zE, zF]
     have m0 := bR9.cell 14 _ (show (recC L a c).cells[14]? = some (.slice a L.length c) from rfl)
     have mf0 := bR9.frozen 14
     obtain ⟨WF, hWF, kF, hwF, hsF⟩ := box_set bR9 14 (.slice a9 y9.length c9)
     have kF' : Box WF w.heap.size (recC y9 a9 c9).cells 39 := kF
     have hsFa := Nat.le_of_eq hsF
     have hsFb := Nat.le_of_eq hsF.symm
     clear hsF
     have oF : OwnL WF (w.heap.size + 1) WF.heap.size a9 c9 y9 := (o9.within hwF (.inr (Nat.le_refl _))).widen (Nat.le_refl _) (by omega) (Nat.le_refl _)
     have NF : Below w.heap.size w WF := N9.trans (hwF.below (Nat.le_refl _) (by omega))
     refine wpAnyH_ready (rs := [12]) (by kernel_rfl) (by simp) ?_
     refine AllReadyH.cons rfl (fun K hK => ?_) AllReadyH.nil
     go_simp
     rw [hWF.out]
     refine hK.out _ _ (HSS.out _ (h.below NF)) (fun hHeld => ?_)
     clear hK K
     try simp only [Act.put, zA, zB, zC]
     refine wpAnyH_done (by kernel_rfl) ?_ _
     clear m0 mf0 hWF hHeld
     go_wp2_with fail
     go_roundw
     case rel => exact ⟨k + 1, a9, c9, y9, by go_num, by omega, by rw [hy9.out]; simp; omega, by rw [Hid, hy9.out]; exact HN.out, kF', oF, NF⟩
     case measure => simp [intOf]; omega
   ·have HN : Hid (L = (e.txs.take (k + 1)).filter (fun l => decide (0 < l.last))) := by rw [Hid, HF'.out, List.filter_append, ← hL.out]; simp [hq]
    have hqb : ¬ z.last > 0 := hq
    clear hL HF' hq ha
    go_wp2_with fail
    go_roundw
    case rel => exact ⟨k + 1, a, c, L, by go_num, by omega, by omega, HN, bR, oL, hb⟩
    case measure => simp [intOf]; omega
  ·have hkk : ¬ (k : Int) < (e.txs.length : Int) := by omega
   have HL : Hid (L = e.txs.filter (fun l => decide (0 < l.last))) := by rw [Hid, hL.out, List.take_of_length_le (by omega)]
   clear hL
   have ND : Below wr.heap.size wr wr.drew := (Below.refl _ _).drew
   go_upto_region 6 with fail
   clear x0
   obtain ⟨q, hq⟩ : ∃ q, Hid (recC L a c = q) := ⟨_, rfl⟩
   rw [hq.out] at bR
   have HQB : Hid (∀ j ∈ q.blocks, w.heap.size + 1 ≤ j) := fun j hj => by rw [← hq.out, recC_blocks] at hj; exact (oL.lt j (Option.mem_toList.1 hj)).1
   have HQV : Hid (q.v = recCV (e.txs.filter (fun l => decide (0 < l.last)))) := by rw [Hid, ← hq.out, recC_v, HL.out]
   have aD := a1.below ND
   have bD := bR.below ND bR.lt
   have oq : q.own wr.drew 0 wr.drew.heap.size := by
    rw [← hq.out]
    exact recC_own ((oL.below ND).widen (Nat.zero_le _) (Nat.le_refl _) (Nat.le_refl _))
   have hoffR : Off E e w.heap.size := h.new (Nat.le_refl _)
   have hEl := h.box.lt
   have HRR : Hid (∀ u, Box u w.heap.size q.cells 39 → u.rangeAt w.heap.size 0 q.cells ∧ True) := fun u bu => ⟨Box.range [] q.cells [] (by simpa using bu), trivial⟩
   have C := l7Log_any E e q wr.drew aD oq (fun j hj hm => by have := HQB.out j hj; have := h.lt j hm; omega) (fun hj => by have := HQB.out E hj; omega) hlen (by omega)
   clear oq hq HL
   refine wp_region_held_drew (S := fun w' => w'.rangeAt w.heap.size 0 q.cells ∧ True) (by kernel_rfl) ?_ (fun hHeld => ?_)
   ·exact HRR.out _ bD
   refine tk 0 (v := .pointer (some ⟨E, 0, none⟩)) rfl (Or.inl ⟨by rfl, ?_⟩) hHeld ?_
   ·intro w' hSw
    go_simp <;> rfl
   try simp only [Act.put, zA, zB, zD, zE, zF]
   refine tk 1 (v := .pointer (some ⟨E, 0, none⟩)) rfl (Or.inl ⟨by rfl, ?_⟩) hHeld ?_
   ·intro w' hSw
    go_simp <;> rfl
   try simp only [Act.put, zA, zB, zC, zD, zE, zF]
   refine tk 2 (v := .pointer (some ⟨E, 138, none⟩)) rfl (Or.inl ⟨by rfl, ?_⟩) hHeld ?_
   ·intro w' hSw
    go_simp <;> rfl
   try simp only [Act.put, zA, zB, zC, zD, zE, zF]
   refine tk 3 (v := .pointer (some ⟨E, 0, none⟩)) rfl (Or.inl ⟨by rfl, ?_⟩) hHeld ?_
   ·intro w' hSw
    go_simp <;> rfl
   try simp only [Act.put, zA, zB, zC, zD, zE, zF]
   refine tk 4 rfl (yieldsIf_load_mid (by rfl) _ _ rfl _ _ rfl q.cells _ (fun _ h => h.1) Tryz.underlying39 rfl (rec_info q)) hHeld ?_
   try simp only [Act.put, zA, zB, zC, zD, zE, zF]
   refine wpAnyH_ready (rs := [5]) (by kernel_rfl) (by simp) ?_
   refine AllReadyH.cons rfl (fun K hK => ?_) AllReadyH.nil
   go_simp
   refine C.mono ?_
   clear C
   rintro r w6 ⟨rfl, e6, he6, _, m6⟩
   have hqR : w.heap.size ∉ q.blocks := fun hj => by have := HQB.out _ hj; omega
   have b6 := m6.boxes bD hoffR hqR
   have S6 : EngStep E e w e6 w6 := EngMore.step ((EngStep.refl h).below (hb.trans (ND.mono hs1))) m6 (fun j hj => by have := HQB.out j hj; omega)
   have hoff6 := m6.off bD.lt hoffR hqR
   refine hK.out _ _ (HRR.out _ b6) (fun hHeld => ?_)
   clear hK K
   try simp only [Act.put, zA, zB, zC, zD, zE, zF]
   have C2 := l5ForceEng_any E e6 ((e.log.recs.length : Int) + 1) w6 S6.at'
   refine wpAnyH_ready (rs := [6]) (by kernel_rfl) (by simp) ?_
   refine AllReadyH.cons rfl (fun K hK => ?_) AllReadyH.nil
   go_simp
   refine C2.mono ?_
   clear C2
   rintro r w7 ⟨⟨v7, rfl⟩, s7, _⟩
   have b7 := s7.boxes b6 hoff6
   have HEND : Hid (∃ e', Hid (e'.v = checkV e.v) ∧ EngStep E e w e' w7) := by
    refine ⟨_, ?_, S6.trans s7⟩
    have e1 : (e6.withLog (e6.log.upTo ((e.log.recs.length : Int) + 1))).v = { e6.v with log := e6.v.log.upTo ((e.log.recs.length : Int) + 1) } := by
     simp only [EngA.v, EngA.withLog, LogA.upTo_v]
    rw [Hid, e1, he6.out, HQV.out]
    simp only [checkV, EngA.v, LogA.v, List.length_map]
   refine hK.out _ _ (HRR.out _ b7) (fun hHeld => ?_)
   clear hK K s7 S6 m6 b6 b7 bD aD he6 HQV HRR
   try simp only [Act.put, zA, zB, zC, zD, zE, zF]
   refine wpAnyH_done (by kernel_rfl) ?_ _
   go_wp2
   go_end0
   exact ⟨⟨_, rfl⟩, HEND.out⟩
end Go.Proofs.YtoboickdkednkaaGreatDoor
namespace Go.Proofs.YtoboickdkednkaaGreatDoor
open Go.RowKit
theorem seatFrom_mem (no : Int) (ss : List SeatV) (k : Nat) (h : ∃ s ∈ ss, s.no = no) : seatFrom no ss k ≠ -1 := by
 induction ss generalizing k with
 | nil => obtain ⟨s, hs, _⟩ := h; cases hs
 | cons s r ih =>
  rw [seatFrom]
  by_cases hq : s.no = no
  ·rw [if_pos hq]; omega
  ·rw [if_neg hq]
   refine ih _ ?_
   obtain ⟨x, hx, he⟩ := h
   rcases List.mem_cons.1 hx with rfl | hx
   ·exact absurd he hq
   ·exact ⟨x, hx, he⟩
theorem seated_mem {ss : List SeatV} {no : Int} (h : ∃ s ∈ ss, s.no = no) : ∃ k : Nat, seatedOf ss no = k ∧ k < ss.length ∧ (ss.getD k zeroStV).no = no := by
 rcases seated_cases ss no with h1 | h1
 ·exact absurd h1 (seatFrom_mem no ss 0 h)
 ·exact h1
theorem bring_new (ss : List SeatV) (h : Nat) (new : SeatV) (hl : ss.length ≤ 3) (hh : h < 3) : new ∈ (bringV ss h new).1 := by
 unfold bringV
 split
 ·simp
 ·next hn =>
  have hk := (victim_hand 4 ss h hh).2
  have hlen := victim_len 4 ss h
  exact List.mem_iff_getElem.2 ⟨(victimV 4 ss h).2.2, by rw [List.length_set]; omega, by simp⟩
theorem bring_mem (ss : List SeatV) (h : Nat) (new : SeatV) : ∀ s ∈ (bringV ss h new).1, s = new ∨ ∃ s0 ∈ ss, s.no = s0.no ∧ s.ss = s0.ss := by
 unfold bringV
 split
 ·intro s hs
  rcases List.mem_append.1 hs with hs | hs
  ·exact .inr ⟨s, hs, rfl, rfl⟩
  ·exact .inl (List.mem_singleton.1 hs)
 ·intro s hs
  rcases List.mem_or_eq_of_mem_set hs with hs | hs
  ·obtain ⟨s0, h0, e1, e2, _, _⟩ := victim_mem 4 ss h s hs
   exact .inr ⟨s0, h0, e1, e2⟩
  ·exact .inl hs
theorem bring_hand (ss : List SeatV) (h : Nat) (new : SeatV) (hh : h < 3) : (bringV ss h new).2.1 < 3 := by
 unfold bringV
 split
 ·exact hh
 ·exact (victim_hand 4 ss h hh).1
theorem fetch_seat (e : EngV) (hp : e.poolOk) (n : Nat) : ∃ k : Nat, (fetchV e n).2 = k ∧ k < (fetchV e n).1.seats.length ∧ ((fetchV e n).1.seats.getD k zeroStV).no = n := by
 rcases seated_cases e.seats n with hs | ⟨k, hs, hk, hno⟩
 ·rw [fetchV, if_neg (by rw [hs]; omega)]
  obtain ⟨h, hh, h3⟩ := hp.hand
  have hin : ∃ s ∈ (bringV e.seats e.hand.toNat ⟨n, (e.disk.getD n (0, [])).1, (e.disk.getD n (0, [])).2, false, true⟩).1, s.no = (n : Int) :=
   ⟨_, bring_new _ _ _ hp.len (by rw [hh]; simpa using h3), rfl⟩
  simp only
  split
  ·exact seated_mem hin
  ·exact seated_mem hin
 ·rw [fetchV, hs, if_pos (by omega), Int.toNat_natCast]
  refine ⟨k, rfl, by rw [List.length_set]; exact hk, ?_⟩
  simp only [List.getD, List.getElem?_set_self hk, Option.getD_some]
  rw [← List.getD_eq_getElem?_getD]
  exact hno
theorem fetch_ok (e : EngV) (hp : e.poolOk) (n : Nat) (h8 : n < 8) : (fetchV e n).1.poolOk := by
 obtain ⟨h, hh, h3⟩ := hp.hand
 rcases seated_cases e.seats n with hs | ⟨k, hs, hk, hno⟩
 ·rw [fetchV, if_neg (by rw [hs]; omega)]
  have hd : n < e.disk.length := by rw [hp.eight]; exact h8
  have hdm : e.disk.getD n (0, []) ∈ e.disk := by simp only [List.getD, List.getElem?_eq_getElem hd, Option.getD_some]; exact List.getElem_mem hd
  have hnos : ∀ s ∈ (bringV e.seats e.hand.toNat ⟨n, (e.disk.getD n (0, [])).1, (e.disk.getD n (0, [])).2, false, true⟩).1, (∃ m : Nat, s.no = m ∧ m < 8) ∧ FitV s.ss := fun s hs1 => by
   rcases bring_mem _ _ _ s hs1 with h1 | ⟨s0, h0, e1, e2⟩
   ·rw [h1]; exact ⟨⟨n, rfl, h8⟩, hp.fitD _ hdm⟩
   ·rw [e1, e2]; exact ⟨hp.nos s0 h0, hp.fitS s0 h0⟩
  have hlen := bring_len e.seats e.hand.toNat ⟨n, (e.disk.getD n (0, [])).1, (e.disk.getD n (0, [])).2, false, true⟩ hp.len
  have hhd := bring_hand e.seats e.hand.toNat ⟨n, (e.disk.getD n (0, [])).1, (e.disk.getD n (0, [])).2, false, true⟩ (by rw [hh]; simpa using h3)
  have hold := fun hw => bring_old e.seats e.hand.toNat ⟨n, (e.disk.getD n (0, [])).1, (e.disk.getD n (0, [])).2, false, true⟩ hw (by rw [hh]; simpa using h3)
  simp only
  split
  ·next hw =>
   obtain ⟨s0, h0, e1, e2⟩ := hold hw.1
   refine ⟨hlen, ⟨_, rfl, hhd⟩, fun s hs1 => (hnos s hs1).1, fun s hs1 => (hnos s hs1).2, ?_, fun p hp1 => ?_⟩
   ·simp only [writeV, List.length_set]; exact hp.eight
   ·simp only [writeV] at hp1
    rcases List.mem_or_eq_of_mem_set hp1 with h1 | h1
    ·exact hp.fitD p h1
    ·rw [h1]; simp only; rw [e2]; exact hp.fitS s0 h0
  ·exact ⟨hlen, ⟨_, rfl, hhd⟩, fun s hs1 => (hnos s hs1).1, fun s hs1 => (hnos s hs1).2, hp.eight, hp.fitD⟩
 ·rw [fetchV, hs, if_pos (by omega), Int.toNat_natCast]
  have hkm : e.seats.getD k zeroStV ∈ e.seats := by simp only [List.getD, List.getElem?_eq_getElem hk, Option.getD_some]; exact List.getElem_mem hk
  refine ⟨by rw [List.length_set]; exact hp.len, ⟨h, hh, h3⟩, fun s hs1 => ?_, fun s hs1 => ?_, hp.eight, hp.fitD⟩
  ·rcases List.mem_or_eq_of_mem_set hs1 with h1 | h1
   ·exact hp.nos s h1
   ·rw [h1]; have := hp.nos _ hkm; exact this
  ·rcases List.mem_or_eq_of_mem_set hs1 with h1 | h1
   ·exact hp.fitS s h1
   ·rw [h1]; have := hp.fitS _ hkm; exact this
theorem fetch_rest (e : EngV) (n : Nat) : (fetchV e n).1.txs = e.txs ∧ (fetchV e n).1.holds = e.holds ∧ (fetchV e n).1.log.recs = e.log.recs ∧ (fetchV e n).1.next = e.next := by
 unfold fetchV
 split
 ·exact ⟨rfl, rfl, rfl, rfl⟩
 ·simp only
  split <;> exact ⟨rfl, rfl, rfl, rfl⟩
theorem log_ok (e : EngV) (hp : e.poolOk) (r : RecV) : (logV e r).poolOk := ⟨hp.len, hp.hand, hp.nos, hp.fitS, hp.eight, hp.fitD⟩
theorem apply_ok (e : EngV) (hp : e.poolOk) (o : Nat) (h32 : o < 32) (x : SlotV) (hx : FitV [x]) (lsn : Int) : (applyV e o x lsn).poolOk := by
 have hf := fetch_ok e hp (o / 4) (by omega)
 obtain ⟨k, hk, hkl, _⟩ := fetch_seat e hp (o / 4)
 have hkm : (fetchV e (o / 4)).1.seats.getD k zeroStV ∈ (fetchV e (o / 4)).1.seats := by simp only [List.getD, List.getElem?_eq_getElem hkl, Option.getD_some]; exact List.getElem_mem hkl
 unfold applyV
 simp only [hk, Int.toNat_natCast]
 refine ⟨by rw [List.length_set]; exact hf.len, hf.hand, fun s hs => ?_, fun s hs => ?_, hf.eight, hf.fitD⟩
 ·rcases List.mem_or_eq_of_mem_set hs with h1 | h1
  ·exact hf.nos s h1
  ·rw [h1]; have := hf.nos _ hkm; exact this
 ·rcases List.mem_or_eq_of_mem_set hs with h1 | h1
  ·exact hf.fitS s h1
  ·rw [h1]
   intro y hy
   simp only [setSeatV] at hy
   rcases List.mem_or_eq_of_mem_set hy with h2 | h2
   ·exact hf.fitS _ hkm y h2
   ·rw [h2]; exact hx x (by simp)
theorem apply_rest (e : EngV) (o : Nat) (x : SlotV) (lsn : Int) : (applyV e o x lsn).txs = e.txs ∧ (applyV e o x lsn).holds = e.holds ∧ (applyV e o x lsn).log.recs = e.log.recs ∧ (applyV e o x lsn).next = e.next := fetch_rest e (o / 4)
end Go.Proofs.YtoboickdkednkaaGreatDoor