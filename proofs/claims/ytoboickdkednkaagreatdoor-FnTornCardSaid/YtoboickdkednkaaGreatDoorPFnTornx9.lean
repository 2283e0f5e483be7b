/- Several texts in one, in their order. -/
import Derived.Test.YtoboickdkednkaaGreatDoorPFnTornx8
import Derived.Test.YtoboickdkednkaaGreatDoorPFnTornx7
import Derived.Test.YtoboickdkednkaaGreatDoorPFnTornx1
set_option maxHeartbeats 8000000
set_option maxRecDepth 100000
namespace Go.Proofs.YtoboickdkednkaaGreatDoor
open Go.RowKit
attribute [local go_sem ↓] Go.wp_at_zero Go.wp_at_succ
def writeV (e : EngV) (s : SeatV) : EngV := { e with log := ⟨e.log.recs, max e.log.sure (min s.lsn e.log.recs.length)⟩, disk := e.disk.set s.no.toNat (s.lsn, s.ss) }
theorem EngA.cells_set {e : EngA} (h : e.shape) (j : Nat) (v : Value) : e.cells.set (136 + j) v = cellsPs e.disk ++ e.tail.set j v := by
 rw [EngA.cells, List.set_append_right _ _ (by rw [EngA.disk_len h]; omega), EngA.disk_len h, show 136 + j - 136 = j by omega]
theorem EngAt.tailSet {w : World} {E : Nat} {e e' : EngA} (h : EngAt w E e) (j : Nat) (v : Value) (hd : e'.disk = e.disk) (ht : e'.tail = e.tail.set j v) :
  ∃ W, Hid (w.setCell ⟨E, 136 + j, none⟩ v = W) ∧ Box W E e'.cells TE ∧ Touch [E] w W ∧ W.heap.size = w.heap.size := by
 obtain ⟨W, hW, b, hw, hs⟩ := box_set h.box (136 + j) v
 rw [EngA.cells_set h.shape] at b
 refine ⟨W, hW, by rw [EngA.cells, hd, ht]; exact b, ⟨hw.os, hw.tape, hw.output, hw.size, fun k hk hn => hw.block k hk (fun hh => hn (by simp; omega))⟩, hs⟩
theorem OwnS.splice {w : World} {lo hi l u : Nat} {A X B Y : List SlotA} (h : OwnS w lo hi (A ++ (X ++ B))) (hy : OwnS w l u Y) (hl : hi ≤ l) (hlo : lo ≤ hi) (htop : max hi u ≤ w.heap.size) : OwnS w lo (max hi u) (A ++ (Y ++ B)) := by
 have hap := h.apart
 have hb := h.blocks_lt
 have hyb := hy.blocks_lt
 refine ⟨fun x hx => ?_, ?_⟩
 ·simp only [List.mem_append] at hx
  rcases hx with hx | hx | hx
  ·exact (h.each x (by simp [hx])).widen (Nat.le_refl _) (by omega) htop
  ·exact (hy.each x hx).widen (by omega) (by omega) htop
  ·exact (h.each x (by simp [hx])).widen (Nat.le_refl _) (by omega) htop
 ·simp only [List.flatMap_append] at hap hb ⊢
  refine nodup_part (n := hi) hap hy.apart (fun k hk => .inr (by have := (hyb k hk).1; omega)) (fun k hk => (hb k (by simp only [List.mem_append]; exact .inl hk)).2) (fun k hk => (hb k (by simp only [List.mem_append]; exact .inr (.inr hk))).2)
theorem disk_split (ps : List PageA) (k : Nat) (hk : k < ps.length) (q : PageA) : ps.set k q = ps.take k ++ q :: ps.drop (k + 1) := by rw [List.set_eq_take_append_cons_drop, if_pos hk]
theorem disk_split' (ps : List PageA) (k : Nat) (hk : k < ps.length) : ps = ps.take k ++ ps[k] :: ps.drop (k + 1) := by
 conv => lhs; rw [← List.take_append_drop k ps, List.drop_eq_getElem_cons hk]
def LogA.upTo (l : LogA) (n : Int) : LogA := { l with sure := max l.sure (min n l.recs.length) }
def LogV.upTo (l : LogV) (n : Int) : LogV := { l with sure := max l.sure (min n l.recs.length) }
theorem LogA.upTo_v (l : LogA) (n : Int) : (l.upTo n).v = l.v.upTo n := by simp [LogA.upTo, LogA.v, LogV.upTo]
theorem l5ForceEng_any (E : Nat) (e : EngA) (n : Int) (w : World) (h : EngAt w E e) :
  Calls Tryz.prog 59 #[.pointer (some ⟨E, 138, none⟩), .int .i64 n] w fun r w' => (∃ v, r = .returned v) ∧ EngStep E e w (e.withLog (e.log.upTo n)) w' ∧ Touch [E] w w' := by
 have c0 : w.cell? ⟨E, 138, none⟩ = some (.slice e.log.a e.log.recs.length e.log.c) := EngA.cell_at h.shape h.box 2 _ rfl
 have c1 : w.cell? ⟨E, 138 + 1, none⟩ = some (.int .i64 e.log.sure) := EngA.cell_at h.shape h.box 3 _ rfl
 refine (l5ForceAt_any E 138 e.log.a e.log.c e.log.recs.length e.log.sure n w c0 c1 (h.box.frozen _)).mono ?_
 rintro r w' ⟨hv, hw⟩
 refine ⟨hv, ?_⟩
 rcases hw with ⟨rfl, hm⟩ | rfl
 ·have e0 : e.withLog (e.log.upTo n) = e := by
   simp only [EngA.withLog, LogA.upTo, hm]
  rw [e0]
  exact ⟨EngStep.refl h, Touch.refl _ _⟩
 ·obtain ⟨W, hW, b, ht, hs⟩ := h.tailSet (e' := e.withLog (e.log.upTo n)) 3 (.int .i64 (max e.log.sure (min n e.log.recs.length))) rfl rfl
  have hW' : w.setCell ⟨E, 138 + 1, none⟩ (.int .i64 (max e.log.sure (min n e.log.recs.length))) = W := hW.out
  rw [hW']
  refine ⟨h.logs (e.log.upTo n) b ?_ (ht.mono (by simp)) (fun k hk => .inl hk), ht⟩
  exact (h.own.log.touch ht (fun k hk hk' => h.off (by rw [← List.mem_singleton.1 hk']; exact EngA.mem_log hk))).widen (Nat.le_refl _) ht.size (Nat.le_refl _)
theorem EngAt.diskSet {w : World} {E : Nat} {e : EngA} (h : EngAt w E e) (n : Nat) (h8 : n < 8) (q : PageA) (hq : q.ss.length = 4) {l u : Nat} (oq : OwnS w l u q.ss) (w0 : World) (hl : w0.heap.size ≤ l) (hlt : ∀ k ∈ e.blocks, k < w0.heap.size) (hE : E < w0.heap.size) (hw0 : w0.heap.size ≤ w.heap.size) (hu : u ≤ w.heap.size) :
  ∃ W, Hid (w.setCells E (n * 17) q.cells = W) ∧ Hid (w.there E (n * 17) q.cells.toArray.size) ∧ EngAt W E (e.withDisk (e.disk.set n q)) ∧ Touch [E] w W ∧ W.heap.size = w.heap.size ∧ (∀ k ∈ (e.withDisk (e.disk.set n q)).blocks, k ∈ e.blocks ∨ l ≤ k) := by
 have hk : n < e.disk.length := by rw [h.shape.eight]; exact h8
 have ho4 : e.disk[n].ss.length = 4 := h.shape.four _ (List.getElem_mem hk)
 have e1 : e.cells = cellsPs (e.disk.take n) ++ (e.disk[n].cells ++ (cellsPs (e.disk.drop (n + 1)) ++ e.tail)) := by rw [EngA.cells, cellsPs_split e.disk n hk]; simp
 have b := h.box
 rw [e1] at b
 obtain ⟨W, hW, b', hw, hs⟩ := range_fill _ _ q.cells _ b (by rw [page_len _ hq, page_len _ ho4])
 have hpl : (cellsPs (e.disk.take n)).length = n * 17 := by rw [cellsPs_len _ (fun p hp => h.shape.four p (List.mem_of_mem_take hp)), List.length_take, Nat.min_eq_left (Nat.le_of_lt hk)]
 rw [hpl] at hW
 have e2 : (e.withDisk (e.disk.set n q)).cells = cellsPs (e.disk.take n) ++ (q.cells ++ (cellsPs (e.disk.drop (n + 1)) ++ e.tail)) := by
  have e3 : (e.withDisk (e.disk.set n q)).cells = cellsPs (e.disk.set n q) ++ e.tail := rfl
  rw [e3, disk_split _ _ hk]
  simp [cellsPs]
 rw [← e2] at b'
 have ht : Touch [E] w W := ⟨hw.os, hw.tape, hw.output, hw.size, fun k hk hn => hw.block k hk (fun hh => hn (by simp; omega))⟩
 have hb8 : (e.disk.set n q).length = 8 := by rw [List.length_set, h.shape.eight]
 have hb4 : ∀ p ∈ e.disk.set n q, p.ss.length = 4 := fun p hp => (List.mem_or_eq_of_mem_set hp).elim (h.shape.four p) (fun e => by rw [e]; exact hq)
 have d1 : e.disk.flatMap (·.ss) = (e.disk.take n).flatMap (·.ss) ++ (e.disk[n].ss ++ (e.disk.drop (n + 1)).flatMap (·.ss)) := by
  have e4 := congrArg (List.flatMap (fun x : PageA => x.ss)) (disk_split' e.disk n hk)
  rw [List.flatMap_append, List.flatMap_cons] at e4
  exact e4
 have d2 : (e.disk.set n q).flatMap (·.ss) = (e.disk.take n).flatMap (·.ss) ++ (q.ss ++ (e.disk.drop (n + 1)).flatMap (·.ss)) := by rw [disk_split _ _ hk]; simp
 have hod : OwnS w 0 w0.heap.size (e.disk.flatMap (·.ss)) := ⟨fun x hx => by
  have hx1 := h.own.disk.each x hx
  have hxb : ∀ k ∈ x.blocks, k < w0.heap.size := fun k hk => hlt k (EngA.mem_disk (List.mem_flatMap.2 ⟨x, hx, hk⟩))
  exact ⟨⟨hx1.ints.1, hw0, fun k hk => hxb k (List.mem_append.2 (.inl (Option.mem_toList.2 hk)))⟩, ⟨hx1.refs.1, hw0, fun k hk => hxb k (List.mem_append.2 (.inr (Option.mem_toList.2 hk)))⟩, hx1.apart⟩, h.own.disk.apart⟩
 have hos : OwnS w 0 (max w0.heap.size u) ((e.disk.set n q).flatMap (·.ss)) := by
  rw [d2]
  rw [d1] at hod
  exact hod.splice oq hl (Nat.zero_le _) (by omega)
 have hfr : ∀ k ∈ ((e.disk.set n q).flatMap (·.ss)).flatMap SlotA.blocks, k ∈ e.diskBl ∨ l ≤ k := fun k hk => by
  rw [d2] at hk
  unfold EngA.diskBl
  rw [d1]
  simp only [List.flatMap_append, List.mem_append] at hk ⊢
  rcases hk with hk | hk | hk
  ·exact .inl (.inl hk)
  ·exact .inr (oq.blocks_lt k hk).1
  ·exact .inl (.inr (.inr hk))
 have hosW : OwnS W 0 W.heap.size ((e.disk.set n q).flatMap (·.ss)) := (hos.touch ht (fun k hk hk' => by
  have hkE := List.mem_singleton.1 hk'
  subst hkE
  rcases hfr k hk with h1 | h1
  ·exact h.off (EngA.mem_disk h1)
  ·omega)).widen (Nat.le_refl _) (by omega) (Nat.le_refl _)
 have ap := h.apart
 have hEb : ∀ k ∈ e.blocks, k ∉ [E] := fun k hk hk' => h.off (by rw [← List.mem_singleton.1 hk']; exact hk)
 refine ⟨W, hW, ?_, ⟨b', ⟨hb8, hb4⟩, ⟨hosW, ?_, ?_, ?_, ?_, ?_⟩, ?_⟩, ht, hs, ?_⟩
 ·exact h.box.there (n * 17) _ (by rw [List.size_toArray, page_len _ hq, EngA.cells_len h.shape]; omega)
 ·exact (h.own.pool.touch ht (fun k hk => hEb k (EngA.mem_pool hk))).widen (Nat.le_refl _) ht.size (Nat.le_refl _)
 ·exact (h.own.log.touch ht (fun k hk => hEb k (EngA.mem_log hk))).widen (Nat.le_refl _) ht.size (Nat.le_refl _)
 ·exact (h.own.txs.touch ht (fun k hk => hEb k (EngA.mem_txs (Option.mem_toList.2 hk)))).widen (Nat.le_refl _) ht.size (Nat.le_refl _)
 ·exact (h.own.holds.touch ht (fun k hk => hEb k (EngA.mem_holds (Option.mem_toList.2 hk)))).widen (Nat.le_refl _) ht.size (Nat.le_refl _)
 ·exact nodup_part (A := []) (P := e.diskBl) (n := l) (by rw [List.nil_append]; exact h.own.apart) hos.apart hfr (by simp) (fun k hk => Nat.lt_of_lt_of_le (hlt k (by simp only [EngA.blocks, EngA.withDisk, List.mem_append] at hk ⊢; exact .inr hk)) hl)
 ·intro hk
  have hoff := h.off
  simp only [EngA.blocks, EngA.withDisk, List.mem_append] at hk hoff
  rcases hk with hk | hk
  ·rcases hfr E hk with h1 | h1
   ·exact hoff (.inl h1)
   ·omega
  ·exact hoff (.inr hk)
 ·intro k hk
  simp only [EngA.blocks, EngA.withDisk, List.mem_append] at hk ⊢
  rcases hk with hk | hk
  ·exact (hfr k hk).imp .inl id
  ·exact .inl (.inr hk)
theorem l7Write_any (E : Nat) (e : EngA) (s : SeatA) (w : World) (h : EngAt w E e) (n : Nat) (hn : s.no = (n : Int)) (h8 : n < 8) (hr : ∀ u, Touch [E] w u → s.reads u) (hl : Fit s.ss) :
  Calls Tryz.prog 132 #[.pointer (some ⟨E, 0, none⟩), .agg s.cells.toArray] w fun r w' => (∃ v, r = .returned v) ∧ ∃ e', Hid (e'.v = writeV e.v s.v) ∧ Hid (e'.log.recs = e.log.recs) ∧ EngStep E e w e' w' := by
 obtain ⟨W, hW, b0, hbW, hsW⟩ := boxes1 w s.cells 172
 have a1 := h.below hbW
 have hoff : Off E e w.heap.size := h.new (Nat.le_refl _)
 have hws : w.heap.size < W.heap.size := by omega
 have HRS : Hid (∀ u, Box u w.heap.size s.cells 172 → u.rangeAt w.heap.size 0 s.cells ∧ u.rangeAt w.heap.size 1 s.page.cells) := fun u bu => ⟨Box.range [] s.cells [] (by simpa using bu), by
  have e1 : s.cells = [.int .i64 s.no] ++ (s.page.cells ++ [.bool s.dirty, .bool s.hot]) := by rw [SeatA.cells_page]; rfl
  rw [e1] at bu
  exact Box.range _ _ _ bu⟩
 have HI : Hid ((Tryz.prog.info? 121).map (·.size) = some s.page.cells.length) := by rw [Hid, page_len s.page rfl]; kernel_rfl
 clear hsW
 go_enter Tryz.func132, Tryz.ntmps132
 go_upto_region 1 with fail
 rw [hW.out]
 clear hW
 have ND : Below W.heap.size W W.drew := (Below.refl _ _).drew
 have a2 := a1.below ND
 have b2 := b0.below ND b0.lt
 refine wp_region_held_drew (S := fun w' => w'.rangeAt w.heap.size 0 s.cells ∧ w'.rangeAt w.heap.size 1 s.page.cells) (by kernel_rfl) ?_ (fun hHeld => ?_)
 ·exact HRS.out _ b2
 refine tk 0 (v := .pointer (some ⟨E, 0, none⟩)) rfl (Or.inl ⟨by rfl, ?_⟩) hHeld ?_
 ·intro w' hSw
  go_simp <;> rfl
 try simp only [Act.put, zA, zB, zD, zE, zF]
 refine tk 1 (v := .pointer (some ⟨E, 0, none⟩)) rfl (Or.inl ⟨by rfl, ?_⟩) hHeld ?_
 ·intro w' hSw
  go_simp <;> rfl
 try simp only [Act.put, zA, zB, zC, zD, zE, zF]
 refine tk 2 (v := .pointer (some ⟨E, 138, none⟩)) rfl (Or.inl ⟨by rfl, ?_⟩) hHeld ?_
 ·intro w' hSw
  go_simp <;> rfl
 try simp only [Act.put, zA, zB, zC, zD, zE, zF]
 refine tk 3 (v := .pointer (some ⟨w.heap.size, 1, none⟩)) rfl (Or.inl ⟨by rfl, ?_⟩) hHeld ?_
 ·intro w' hSw
  go_simp <;> rfl
 try simp only [Act.put, zA, zB, zC, zD, zE, zF]
 refine tk 4 (v := .pointer (some ⟨w.heap.size, 1, none⟩)) rfl (Or.inl ⟨by rfl, ?_⟩) hHeld ?_
 ·intro w' hSw
  go_simp <;> rfl
 try simp only [Act.put, zA, zB, zC, zD, zE, zF]
 refine tk 5 (v := .int .i64 s.lsn) rfl (Or.inl ⟨by rfl, ?_⟩) hHeld ?_
 ·intro w' hSw
  have hx : w'.cell? ⟨w.heap.size, 1, none⟩ = some (.int .i64 s.lsn) := hSw.1 1 _ rfl
  go_simp <;> rfl
 try simp only [Act.put, zA, zB, zC, zD, zE, zF]
 refine wpAnyH_ready (rs := [6]) (by kernel_rfl) (by simp) ?_
 refine AllReadyH.cons rfl (fun K hK => ?_) AllReadyH.nil
 go_simp
 refine (l5ForceEng_any E e s.lsn W.drew a2).mono ?_
 rintro r w3 ⟨⟨v3, rfl⟩, s3, t3⟩
 have b3 := s3.boxes b2 hoff
 have N0 : Below w.heap.size w W.drew := hbW.trans (ND.mono hbW.size)
 have S3 : EngStep E e w (e.withLog (e.log.upTo s.lsn)) w3 := EngStep.after N0 s3
 have r3 : s.reads w3 := hr _ ((Touch.of_below N0).trans t3)
 have hs3 := S3.size
 have hs3' := s3.size
 have hE : E < w.heap.size := h.box.lt
 have hb3 : w.heap.size < w3.heap.size := b3.lt
 refine hK.out _ _ (HRS.out _ b3) (fun hHeld => ?_)
 clear hK K
 try simp only [Act.put, zA, zB, zC, zD, zE, zF]
 refine wpAnyH_done (by kernel_rfl) ?_ _
 clear hHeld s3 a1 a2 b2 b0 t3 hr
 have ND3 : Below w3.heap.size w3 w3.drew := (Below.refl _ _).drew
 have a4 := S3.at'.below ND3
 have b4 := b3.below ND3 b3.lt
 go_upto_region 2 with fail
 refine wp_region_held_drew (S := fun w' => w'.rangeAt w.heap.size 0 s.cells ∧ w'.rangeAt w.heap.size 1 s.page.cells) (by kernel_rfl) ?_ (fun hHeld => ?_)
 ·exact HRS.out _ b4
 refine tk 0 (v := .pointer (some ⟨E, 0, none⟩)) rfl (Or.inl ⟨by rfl, ?_⟩) hHeld ?_
 ·intro w' hSw
  go_simp <;> rfl
 try simp only [Act.put, zA, zB, zD, zE, zF]
 refine tk 1 (v := .pointer (some ⟨w.heap.size, 0, none⟩)) rfl (Or.inl ⟨by rfl, ?_⟩) hHeld ?_
 ·intro w' hSw
  go_simp <;> rfl
 try simp only [Act.put, zA, zB, zC, zD, zE, zF]
 refine tk 2 (v := .int .i64 s.no) rfl (Or.inl ⟨by rfl, ?_⟩) hHeld ?_
 ·intro w' hSw
  have hx : w'.cell? ⟨w.heap.size, 0, none⟩ = some (.int .i64 s.no) := hSw.1 0 _ rfl
  go_simp <;> rfl
 try simp only [Act.put, zA, zB, zC, zD, zE, zF]
 refine tk 3 (v := .pointer (some ⟨w.heap.size, 1, none⟩)) rfl (Or.inl ⟨by rfl, ?_⟩) hHeld ?_
 ·intro w' hSw
  go_simp <;> rfl
 try simp only [Act.put, zA, zB, zC, zD, zE, zF]
 refine tk 4 rfl (yieldsIf_load_mid (by rfl) _ _ rfl _ _ rfl s.page.cells _ (fun _ h => h.2) Tryz.underlying121 rfl HI.out) hHeld ?_
 try simp only [Act.put, zA, zB, zC, zD, zE, zF]
 refine tk 6 (v := .pointer (some ⟨E, 0, none⟩)) rfl (Or.inl ⟨by rfl, ?_⟩) hHeld ?_
 ·intro w' hSw
  go_simp <;> rfl
 try simp only [Act.put, zA, zB, zC, zD, zE, zF]
 refine tk 7 (v := .pointer (some ⟨E, 0, none⟩)) rfl (Or.inl ⟨by rfl, ?_⟩) hHeld ?_
 ·intro w' hSw
  go_simp <;> rfl
 try simp only [Act.put, zA, zB, zC, zD, zE, zF]
 refine wpAnyH_ready (rs := [5]) (by kernel_rfl) (by simp) ?_
 refine AllReadyH.cons rfl (fun K hK => ?_) AllReadyH.nil
 go_simp
 refine (l3Copy_own s.page rfl w3.drew (r3.below ND3) hl).mono ?_
 rintro r w5 ⟨ts, rfl, hts, ho5, hb5⟩
 have N35 : Below w3.heap.size w3 w5 := ND3.trans hb5
 have a5 := S3.at'.below N35
 have b5 := b3.below N35 b3.lt
 have S5 := S3.below N35
 have h4 : ts.length = 4 := by have := congrArg List.length hts.out; simpa [SeatA.page, SeatA.ss] using this
 have hs5 := N35.size
 refine hK.out _ _ (HRS.out _ b5) (fun hHeld => ?_)
 clear hK K
 try simp only [Act.put, zA, zB, zC, zD, zE, zF]
 obtain ⟨WF, hWF, HTH, aF, tF, hsF, fF⟩ := a5.diskSet n h8 ⟨s.lsn, ts⟩ h4 ho5 w3.drew (Nat.le_refl _) (fun k hk => a4.lt k hk) a4.box.lt hb5.size (Nat.le_refl _)
 have HWF : Hid (w5.setCells E (n * 17) (PageA.cells ⟨s.lsn, ts⟩).toArray.toList = WF) := hWF.out
 have bF := b5.touch tF (by simp; omega)
 have HI5 : Hid ((Tryz.prog.info? 121).map (·.size) = some (PageA.cells ⟨s.lsn, ts⟩).toArray.size) := by rw [Hid, List.size_toArray, page_len _ h4]; kernel_rfl
 have HS : Hid (∃ e', Hid (e'.v = writeV e.v s.v) ∧ Hid (e'.log.recs = e.log.recs) ∧ EngStep E e w e' WF) := by
  refine ⟨_, ?_, ?_, aF, ?_, ?_⟩
  ·rw [Hid]
   simp only [EngA.v, EngA.withDisk, EngA.withLog, writeV, LogA.upTo, LogA.v, List.map_set, SeatA.v, hn, Int.toNat_natCast, hts.out, SeatA.page, List.length_map]
  ·rfl
  ·exact S5.touch.trans (tF.mono (by simp))
  ·intro k hk
   rcases fF k hk with h1 | h1
   ·exact S5.fresh k h1
   ·exact .inr (by have : w3.drew.heap.size = w3.heap.size := rfl; omega)
 clear hWF aF tF hsF fF
 have hn8 : (n : Int) < 8 := by omega
 have hn0 : (0 : Int) ≤ (n : Int) := by omega
 refine tk 8 (v := .pointer (some ⟨E, n * 17, none⟩)) rfl (Or.inl ⟨by rfl, ?_⟩) hHeld ?_
 ·intro w' hSw
  go_simp <;> rfl
 try simp only [Act.put, zA, zB, zC, zD, zE, zF]
 refine wpAnyH_ready (rs := [9]) (by kernel_rfl) (by simp) ?_
 refine AllReadyH.cons rfl (fun K hK => ?_) AllReadyH.nil
 rw [if_pos (by rfl)]
 refine wp_store_mid 121 (.tmp 19) (.tmp 16) rfl E (n * 17) (PageA.cells ⟨s.lsn, ts⟩).toArray rfl rfl HTH.out HI5.out (all_oneCell_toArray (oneP _)) ?_
 rw [HWF.out]
 refine hK.out _ _ (HRS.out _ bF) (fun hHeld => ?_)
 clear hK K
 try simp only [Act.put, zA, zB, zC]
 refine wpAnyH_done (by kernel_rfl) ?_ _
 go_wp2
 go_end0
 exact ⟨⟨_, rfl⟩, HS.out⟩
end Go.Proofs.YtoboickdkednkaaGreatDoor
namespace Go.Proofs.YtoboickdkednkaaGreatDoor
open Go.RowKit
attribute [local go_sem ↓] Go.wp_at_zero Go.wp_at_succ
def FitV (ss : List SlotV) : Prop := ∀ s ∈ ss, s.o.ints.length ≤ 1099511627776 ∧ s.o.refs.length ≤ 1099511627776
def hotV (s : SeatV) : SeatV := { s with hot := true }
def fetchV (e : EngV) (n : Nat) : EngV × Int :=
 if 0 ≤ seatedOf e.seats n then ({ e with seats := e.seats.set (seatedOf e.seats n).toNat (hotV (e.seats.getD (seatedOf e.seats n).toNat zeroStV)) }, seatedOf e.seats n)
 else
  let b := bringV e.seats e.hand.toNat ⟨n, (e.disk.getD n (0, [])).1, (e.disk.getD n (0, [])).2, false, true⟩
  let e1 : EngV := { e with seats := b.1, hand := b.2.1 }
  let e2 := if b.2.2.2 = true ∧ b.2.2.1.dirty = true then writeV e1 b.2.2.1 else e1
  (e2, seatedOf e2.seats n)
structure EngV.poolOk (e : EngV) : Prop where
 len : e.seats.length ≤ 3
 hand : ∃ h : Nat, e.hand = h ∧ h < 3
 nos : ∀ s ∈ e.seats, ∃ n : Nat, s.no = n ∧ n < 8
 fitS : ∀ s ∈ e.seats, FitV s.ss
 eight : e.disk.length = 8
 fitD : ∀ p ∈ e.disk, FitV p.2
theorem fit_of {ss : List SlotA} (h : FitV (ss.map (·.v))) : Fit ss := fun s hs => h s.v (List.mem_map_of_mem hs)
theorem seatFrom_lt (no : Int) (ss : List SeatV) (k : Nat) : seatFrom no ss k = -1 ∨ ∃ j, seatFrom no ss k = (k + j : Nat) ∧ j < ss.length ∧ (ss.getD j zeroStV).no = no := by
 induction ss generalizing k with
 | nil => exact .inl rfl
 | cons s r ih =>
  rw [seatFrom]
  by_cases h : s.no = no
  ·rw [if_pos h]; exact .inr ⟨0, rfl, by simp, by simpa using h⟩
  ·rw [if_neg h]
   rcases ih (k + 1) with h1 | ⟨j, h1, h2, h3⟩
   ·exact .inl h1
   ·exact .inr ⟨j + 1, by rw [h1]; congr 1; omega, by simp; omega, by simpa using h3⟩
theorem seated_cases (ss : List SeatV) (no : Int) : seatedOf ss no = -1 ∨ ∃ j : Nat, seatedOf ss no = j ∧ j < ss.length ∧ (ss.getD j zeroStV).no = no := by
 rcases seatFrom_lt no ss 0 with h | ⟨j, h1, h2, h3⟩
 ·exact .inl h
 ·exact .inr ⟨j, by rw [seatedOf, h1]; simp, h2, h3⟩
theorem EngA.cells_tail {e : EngA} (h : e.shape) (j : Nat) : e.cells[136 + j]? = e.tail[j]? := by
 rw [EngA.cells, List.getElem?_append_right (by rw [EngA.disk_len h]; omega), EngA.disk_len h, show 136 + j - 136 = j by omega]
theorem EngAt.poolAt {w : World} {E : Nat} {e : EngA} (h : EngAt w E e) : PoolAt w 0 w.heap.size E 136 e.cells TE e.aS e.cS e.seats e.hand :=
 ⟨h.box, EngA.cells_tail h.shape 0, EngA.cells_tail h.shape 1, h.own.pool, fun hk => h.off (EngA.mem_pool hk)⟩
theorem EngA.cells_pool {e : EngA} (h : e.shape) (ss : List SeatA) (a : Option Addr) (c : Nat) (hand : Int) : (e.cells.set 136 (.slice a ss.length c)).set 137 (.int .i64 hand) = (e.withPool ss a c hand).cells := by
 have h1 : e.cells.set 136 (.slice a ss.length c) = cellsPs e.disk ++ e.tail.set 0 (.slice a ss.length c) := EngA.cells_set h 0 _
 rw [h1, List.set_append_right _ _ (by rw [EngA.disk_len h]; omega), EngA.disk_len h]
 rfl
theorem Brought.step {w w' : World} {E : Nat} {e : EngA} {ts : List SeatA} {a' : Option Addr} {c' hand' : Nat} {old : SeatA} (h : EngAt w E e) (b : Brought 0 E 136 e.cells TE e.aS e.cS e.seats w w' ts a' c' hand' old) : EngStep E e w (e.withPool ts a' c' hand') w' := by
 refine h.pool ts a' c' hand' ?_ b.pool.own b.touch b.fresh
 have := b.pool.box
 rw [EngA.cells_pool h.shape] at this
 exact this
theorem EngAt.seatSet {w : World} {E : Nat} {e : EngA} (h : EngAt w E e) (k : Nat) (hk : k < e.seats.length) (z' : SeatA) (i : Nat) (v : Value) (hi : i < 20) (hc : z'.cells = (e.seats.getD k zeroSt).cells.set i v) (hss : z'.ss = (e.seats.getD k zeroSt).ss) :
  ∃ g W, e.aS = some ⟨g, 0, none⟩ ∧ g ≠ E ∧ Hid (w.setCell ⟨g, k * 20 + i, none⟩ v = W) ∧ (∀ j, w.frozen? ⟨g, j, none⟩ = false) ∧ w.rangeAt g (k * 20) (e.seats.getD k zeroSt).cells ∧ EngStep E e w (e.withPool (e.seats.set k z') e.aS e.cS e.hand) W ∧ Touch [g] w W ∧ W.heap.size = w.heap.size := by
 obtain ⟨g, hg⟩ : ∃ g, e.aS = some ⟨g, 0, none⟩ := by
  rcases h.own.pool.row.2 with ⟨_, h0⟩ | ⟨g, cap', cur, hv, _⟩
  ·omega
  ·simp only [Value.slice.injEq] at hv; exact ⟨g, hv.1⟩
 have hmem : g ∈ blocksSts e.aS e.cS e.seats := by rw [hg]; simp [blocksSts, Value.ownBlock]
 have hgE : g ≠ E := fun e1 => h.off (by rw [← e1]; exact EngA.mem_pool hmem)
 have ho := h.own.pool
 rw [hg] at ho
 have hr := row_seat ho.row rfl k hk
 have hf : ∀ j, w.frozen? ⟨g, j, none⟩ = false := fun j => ho.row.frozenAt j
 rw [seatD_split e.seats k hk] at ho
 obtain ⟨o2, t2⟩ := OwnSts.cellSet (z' := z') ho i v hi hc hss
 have hkl : (e.seats.take k).length = k := by rw [List.length_take]; omega
 rw [hkl, ← seat_set e.seats k z' hk] at o2
 rw [hkl] at t2
 have hsz : (w.setCell ⟨g, k * 20 + i, none⟩ v).heap.size = w.heap.size := by simp
 have hbl : blocksSts (some ⟨g, 0, none⟩) e.cS (e.seats.set k z') = blocksSts (some ⟨g, 0, none⟩) e.cS e.seats := by
  refine blocksSts_len (n := e.seats.length) (by simp) rfl ?_
  rw [seat_set _ _ _ hk]
  conv => rhs; rw [seatD_split e.seats k hk]
  simp only [List.flatMap_append, List.flatMap_cons, SeatA.blocks, hss]
 refine ⟨g, _, hg, hgE, rfl, hf, hr.1, ?_, t2, hsz⟩
 refine h.pool _ _ _ _ ?_ ?_ (t2.mono (fun j hj => List.mem_cons_of_mem _ (by rw [List.mem_singleton.1 hj]; exact hmem))) (fun j hj => .inl ?_)
 ·have e1 : (e.withPool (e.seats.set k z') e.aS e.cS e.hand).cells = e.cells := by
   simp only [EngA.cells, EngA.tail, EngA.withPool, List.length_set]
  rw [e1]
  exact h.box.touch t2 (by simpa using fun e1 => hgE e1.symm)
 ·rw [hg]
  exact o2.widen (Nat.le_refl _) (Nat.le_of_eq hsz.symm) (Nat.le_refl _)
 ·rw [hg] at hj ⊢
  rw [hbl] at hj
  exact hj
theorem EngStep.put {E X : Nat} {e e' : EngA} {w w' w'' : World} (s : EngStep E e w e' w') (hw : Within X (X + 1) w' w'') (ho : Off E e' X) (hX : w.heap.size ≤ X) : EngStep E e w e' w'' :=
 ⟨s.at'.within hw (fun h => ho.1 (by omega)) (fun k hk h => ho.2 (by have : k = X := (by omega); rw [← this]; exact hk)),
  ⟨hw.os.trans s.touch.os, hw.tape.trans s.touch.tape, hw.output.trans s.touch.output, Nat.le_trans s.size hw.size, fun k hk hn => (hw.block k (Nat.lt_of_lt_of_le hk s.size) (by omega)).trans (s.touch.block k hk hn)⟩, s.fresh⟩
theorem victim_mem (m : Nat) (ss : List SeatV) (h : Nat) : ∀ s ∈ (victimV m ss h).1, ∃ s0 ∈ ss, s.no = s0.no ∧ s.ss = s0.ss ∧ s.lsn = s0.lsn ∧ s.dirty = s0.dirty := by
 induction m generalizing ss h with
 | zero => exact fun s hs => ⟨s, hs, rfl, rfl, rfl, rfl⟩
 | succ m ih =>
  intro s hs
  rw [victimV] at hs
  split at hs
  ·next hh =>
   obtain ⟨s0, h0, e1, e2, e3, e4⟩ := ih _ _ s hs
   rcases List.mem_or_eq_of_mem_set h0 with h1 | h1
   ·exact ⟨s0, h1, e1, e2, e3, e4⟩
   ·by_cases hlt : h < ss.length
    ·refine ⟨ss.getD h zeroStV, ?_, by rw [e1, h1]; rfl, by rw [e2, h1]; rfl, by rw [e3, h1]; rfl, by rw [e4, h1]; rfl⟩
     simp only [List.getD, List.getElem?_eq_getElem hlt, Option.getD_some]
     exact List.getElem_mem hlt
    ·exfalso
     have hge : ss.length ≤ h := by omega
     simp only [List.getD, List.getElem?_eq_none hge, Option.getD_none] at hh
     cases hh
  ·exact ⟨s, hs, rfl, rfl, rfl, rfl⟩
theorem bring_len (ss : List SeatV) (h : Nat) (new : SeatV) (hl : ss.length ≤ 3) : (bringV ss h new).1.length ≤ 3 := by
 unfold bringV
 split
 ·simp; omega
 ·simp only [List.length_set, victim_len]; exact hl
theorem bring_old (ss : List SeatV) (h : Nat) (new : SeatV) (hw : (bringV ss h new).2.2.2 = true) (hh : h < 3) : ∃ s0 ∈ ss, (bringV ss h new).2.2.1.no = s0.no ∧ (bringV ss h new).2.2.1.ss = s0.ss := by
 unfold bringV at hw ⊢
 split at hw
 ·cases hw
 ·next hl =>
  rw [if_neg hl]
  have hk := (victim_hand 4 ss h hh).2
  have hlen := victim_len 4 ss h
  have hlt : (victimV 4 ss h).2.2 < (victimV 4 ss h).1.length := by omega
  obtain ⟨s0, h0, e1, e2, _, _⟩ := victim_mem 4 ss h ((victimV 4 ss h).1.getD (victimV 4 ss h).2.2 zeroStV) (by
   simp only [List.getD, List.getElem?_eq_getElem hlt, Option.getD_some]
   exact List.getElem_mem hlt)
  exact ⟨s0, h0, e1, e2⟩
theorem l7Fetch_any (E : Nat) (e : EngA) (n : Nat) (w : World) (h : EngAt w E e) (hp : e.v.poolOk) (h8 : n < 8) :
  Calls Tryz.prog 119 #[.pointer (some ⟨E, 0, none⟩), .int .i64 n] w fun r w' => ∃ (e' : EngA) (k : Int), r = .returned (.int .i64 k) ∧ Hid (fetchV e.v n = (e'.v, k)) ∧ Hid (e'.log.recs = e.log.recs) ∧ EngStep E e w e' w' := by
 have HIQ : Hid ((Tryz.prog.info? 125).map (·.size) = some [Value.slice e.aS e.seats.length e.cS, .int .i64 e.hand].length) := by rw [Hid]; kernel_rfl
 have HRQ : Hid (∀ u (e1 : EngA), EngAt u E e1 → u.rangeAt E 136 [.slice e1.aS e1.seats.length e1.cS, .int .i64 e1.hand]) := fun u e1 hu j v hv => by
  match j, hv with
  | 0, hv => cases hv; exact EngA.cell_at hu.shape hu.box 0 _ rfl
  | 1, hv => cases hv; exact EngA.cell_at hu.shape hu.box 1 _ rfl
 have C1 := specSeated_any e.aS e.cS e.seats e.hand n w h.own.pool.reads (by have := hp.len; simp only [EngA.v, List.length_map] at this; omega)
 go_enter Tryz.func119, Tryz.ntmps119
 go_wp2_with (first | (guard_target = wpList _ _ _ (Oper.mk (some 11) _ _ _ _ _ :: _) _ _; refine wpList_load_mid rfl 125 (.tmp 10) rfl E 136 rfl _ _ (HRQ.out w e h) Tryz.underlying125 rfl HIQ.out ?_) | fail)
 refine C1.mono ?_
 clear C1
 rintro r w1 ⟨rfl, hb1⟩
 have a1 := h.below hb1
 rcases seated_cases (e.seats.map SeatA.v) n with hs | ⟨k, hs, hk, hno⟩
 ·have hneg : ¬ (0 : Int) ≤ seatedOf (e.seats.map SeatA.v) n := by rw [hs]; omega
  obtain ⟨hd, hhd, hhb⟩ := hp.hand
  have hhd' : e.hand = (hd : Int) := hhd
  have hlen : e.seats.length ≤ 3 := by have := hp.len; simpa [EngA.v] using this
  have hdk : n < e.disk.length := by rw [h.shape.eight]; exact h8
  obtain ⟨pg, hpg⟩ : ∃ pg : PageA, Hid (e.disk[n] = pg) := ⟨e.disk[n], rfl⟩
  have HPG : Hid (e.v.disk.getD n (0, []) = (pg.lsn, pg.ss.map (·.v))) := by
   rw [Hid, ← hpg.out]
   simp [EngA.v, List.getD, hdk]
  have h4 : pg.ss.length = 4 := by rw [← hpg.out]; exact h.shape.four _ (List.getElem_mem hdk)
  have HSS : Hid (∀ u (e1 : EngA), EngAt u E e1 → e1.disk = e.disk → u.rangeAt E (n * 17) pg.cells) := fun u e1 hu hd1 => by
   have h1 := EngA.page_at hu.shape hu.box n (by rw [hd1]; exact hdk)
   simp only [hd1, hpg.out] at h1
   exact h1
  have hfit : Fit pg.ss := fit_of (by
   have := hp.fitD (e.v.disk.getD n (0, [])) (by
    simp only [List.getD, EngA.v, List.getElem?_map, List.getElem?_eq_getElem hdk, Option.map_some, Option.getD_some]
    exact List.mem_map_of_mem (List.getElem_mem hdk))
   rw [HPG.out] at this
   exact this)
  have HRD : Hid (∀ u, EngAt u E e → ReadsS u pg.ss) := fun u hu s hs => hu.own.disk.reads s (List.mem_flatMap.2 ⟨e.disk[n], List.getElem_mem hdk, by rw [hpg.out]; exact hs⟩)
  have HI : Hid ((Tryz.prog.info? 121).map (·.size) = some pg.cells.length) := by rw [Hid, page_len pg h4]; kernel_rfl
  have HNEG : Hid (seatedOf (e.seats.map SeatA.v) n = -1) := hs
  have ND : Below w1.heap.size w1 w1.drew := (Below.refl _ _).drew
  have hn8 : (n : Int) < 8 := by omega
  have hn0 : (0 : Int) ≤ (n : Int) := by omega
  rw [hs]
  clear hs hpg hdk
  go_upto_region 5 with fail
  refine wp_region_held_drew (S := fun w' => w'.rangeAt E (n * 17) pg.cells ∧ True) (by kernel_rfl) ?_ (fun hHeld => ?_)
  ·exact ⟨HSS.out _ e (a1.below ND) rfl, trivial⟩
  refine tk 0 (v := .pointer (some ⟨E, 0, none⟩)) rfl (Or.inl ⟨by rfl, ?_⟩) hHeld ?_
  ·intro w' hSw
   go_simp <;> rfl
  try simp only [Act.put, zA, zB, zD, zE, zF]
  refine tk 1 (v := .pointer (some ⟨E, 0, none⟩)) rfl (Or.inl ⟨by rfl, ?_⟩) hHeld ?_
  ·intro w' hSw
   go_simp <;> rfl
  try simp only [Act.put, zA, zB, zC, zD, zE, zF]
  refine tk 2 (v := .pointer (some ⟨E, 136, none⟩)) rfl (Or.inl ⟨by rfl, ?_⟩) hHeld ?_
  ·intro w' hSw
   go_simp <;> rfl
  try simp only [Act.put, zA, zB, zC, zD, zE, zF]
  refine tk 3 (v := .int .i64 n) rfl (Or.inl ⟨by rfl, ?_⟩) hHeld ?_
  ·intro w' hSw
   go_simp <;> rfl
  try simp only [Act.put, zA, zB, zC, zD, zE, zF]
  refine tk 4 (v := .pointer (some ⟨E, 0, none⟩)) rfl (Or.inl ⟨by rfl, ?_⟩) hHeld ?_
  ·intro w' hSw
   go_simp <;> rfl
  try simp only [Act.put, zA, zB, zC, zD, zE, zF]
  refine tk 5 (v := .int .i64 n) rfl (Or.inl ⟨by rfl, ?_⟩) hHeld ?_
  ·intro w' hSw
   go_simp <;> rfl
  try simp only [Act.put, zA, zB, zC, zD, zE, zF]
  refine tk 6 (v := .pointer (some ⟨E, 0, none⟩)) rfl (Or.inl ⟨by rfl, ?_⟩) hHeld ?_
  ·intro w' hSw
   go_simp <;> rfl
  try simp only [Act.put, zA, zB, zC, zD, zE, zF]
  refine tk 7 (v := .pointer (some ⟨E, 0, none⟩)) rfl (Or.inl ⟨by rfl, ?_⟩) hHeld ?_
  ·intro w' hSw
   go_simp <;> rfl
  try simp only [Act.put, zA, zB, zC, zD, zE, zF]
  refine tk 8 (v := .pointer (some ⟨E, n * 17, none⟩)) rfl (Or.inl ⟨by rfl, ?_⟩) hHeld ?_
  ·intro w' hSw
   go_simp <;> rfl
  try simp only [Act.put, zA, zB, zC, zD, zE, zF]
  refine tk 9 rfl (yieldsIf_load_mid (by rfl) _ _ rfl _ _ rfl pg.cells _ (fun _ h => h.1) Tryz.underlying121 rfl HI.out) hHeld ?_
  try simp only [Act.put, zA, zB, zC, zD, zE, zF]
  refine wpAnyH_ready (rs := [10, 14]) (by kernel_rfl) (by simp) ?_
  refine AllReadyH.cons rfl (fun K hK => ?_) (AllReadyH.cons rfl (fun K hK => ?_) AllReadyH.nil)
  ·have aP := a1.below ND
   have pP := aP.poolAt
   rw [hhd'] at pP
   have C5 := l6Bring_any 0 w1.drew.heap.size E 136 e.cells TE e.aS e.cS e.seats hd n pg w1.drew pP (Nat.zero_le _) hlen hhb h4 (HRD.out _ aP) hfit
   clear pP
   go_simp
   refine C5.mono ?_
   clear C5
   rintro r w5 ⟨ts, a', c', hand', old, went, rfl, hbv, br⟩
   have s5 := br.step aP
   have HOE : Hid (∀ j ∈ old.blocks, j ≠ E ∧ j < w1.heap.size) := fun j hj => ⟨fun e1 => h.off (EngA.mem_pool (by rw [← e1]; exact br.wentB j hj)), a1.lt j (EngA.mem_pool (br.wentB j hj))⟩
   have oo5 := br.went
   have q5 := HSS.out _ _ s5.at' rfl
   have hs5 := s5.size
   refine hK.out _ _ (⟨q5, trivial⟩) (fun hHeld => ?_)
   clear hK K
   try simp only [Act.put, zA, zB, zC, zD, zE, zF]
   refine tk 11 (v := .tuple #[.agg old.cells.toArray, .bool went]) rfl (Or.inl ⟨by rfl, ?_⟩) hHeld ?_
   ·intro w' hSw
    go_simp <;> rfl
   try simp only [Act.put, zA, zB, zC, zD, zE, zF]
   refine tk 12 (v := .agg old.cells.toArray) rfl (Or.inl ⟨by rfl, ?_⟩) hHeld ?_
   ·intro w' hSw
    go_simp <;> rfl
   try simp only [Act.put, zA, zB, zC, zD, zE, zF]
   refine tk 13 (v := .bool went) rfl (Or.inl ⟨by rfl, ?_⟩) hHeld ?_
   ·intro w' hSw
    go_simp <;> rfl
   try simp only [Act.put, zA, zB, zC, zD, zE, zF]
   obtain ⟨W6, hW6, b6, hb6, hs6⟩ := boxes1 w5 zeroSt.cells 172
   have hW6' : Hid (w5.alloc (.cells #[.int .i64 0, .int .i64 0, .bool false, .int .i64 0, .slice none 0 0, .slice none 0 0, .bool false, .int .i64 0, .slice none 0 0, .slice none 0 0, .bool false, .int .i64 0, .slice none 0 0, .slice none 0 0, .bool false, .int .i64 0, .slice none 0 0, .slice none 0 0, .bool false, .bool false] 172) = W6) := hW6.out
   refine wpAnyH_ready (rs := [14]) (by kernel_rfl) (by simp) ?_
   refine AllReadyH.cons rfl (fun K hK => ?_) AllReadyH.nil
   go_simp
   rw [hW6'.out]
   have s6 := s5.below hb6
   have hoX := s5.at'.new (Nat.le_refl w5.heap.size)
   obtain ⟨W8, hW8, hw8, hs8, HT8, _, bo⟩ := seat_out old _ rfl b6
   have S8 : EngStep E e w (e.withPool ts a' c' hand') W8 := EngStep.after (hb1.trans (ND.mono hb1.size)) (EngStep.put s6 hw8 hoX hs5)
   have oo8 : old.own W8 0 w5.heap.size := (oo5.below hb6).within hw8 (.inl (Nat.le_refl _))
   have HRX : Hid (W8.rangeAt w5.heap.size 0 old.cells) := Box.range [] old.cells [] (by simpa using bo)
   have hW8' : Hid (W6.setCells w5.heap.size 0 old.cells.toArray.toList = W8) := hW8.out
   refine hK.out _ _ (⟨HSS.out _ _ s6.at' rfl, trivial⟩) (fun hHeld => ?_)
   clear hK K
   try simp only [Act.put, zA, zB, zC, zD, zE, zF]
   refine wpAnyH_ready (rs := [15]) (by kernel_rfl) (by simp) ?_
   refine AllReadyH.cons rfl (fun K hK => ?_) AllReadyH.nil
   rw [if_pos (by rfl)]
   refine wp_store_mid 172 (.tmp 6) (.tmp 37) rfl w5.heap.size 0 old.cells.toArray rfl rfl HT8.out (seat_info old) (seat_one old) ?_
   rw [hW8'.out]
   refine hK.out _ _ (⟨HSS.out _ _ S8.at' rfl, trivial⟩) (fun hHeld => ?_)
   clear hK K
   try simp only [Act.put, zA, zB, zC]
   refine tk 16 (v := .bool went) rfl (Or.inl ⟨by rfl, ?_⟩) hHeld ?_
   ·intro w' hSw
    go_simp <;> rfl
   try simp only [Act.put, zA, zB, zC, zD, zE, zF]
   refine wpAnyH_done (by kernel_rfl) ?_ _
   clear hW8' hW8 hw8 hs8 HT8 s6 b6 hb6 hs6 hW6 hW6' s5 q5 br aP oo5 ND
   generalize w5.heap.size = X at *
   have r8 := HRX.out
   have d8 := bo.cell 18 _ (show old.cells[18]? = some (.bool old.dirty) from rfl)
   have HFV : Hid (fetchV e.v n = ((if went = true ∧ old.v.dirty = true then writeV (e.withPool ts a' c' hand').v old.v else (e.withPool ts a' c' hand').v), seatedOf (if went = true ∧ old.v.dirty = true then writeV (e.withPool ts a' c' hand').v old.v else (e.withPool ts a' c' hand').v).seats n)) := by
    rw [Hid, fetchV, if_neg (by rw [show e.v.seats = e.seats.map SeatA.v from rfl, HNEG.out]; omega)]
    have e1 : e.v.seats = e.seats.map SeatA.v := rfl
    have e2 : e.v.hand.toNat = hd := by rw [hhd]; rfl
    have e3 : e.v.disk.getD n (0, []) = (pg.lsn, pg.ss.map (·.v)) := HPG.out
    simp only [e1, e2, e3, hbv.out]
    rfl
   have HSE : Hid (∀ u (e1 : EngA), EngAt u E e1 → e1.seats.length ≤ 3 → Calls Tryz.prog 131 #[.agg #[.slice e1.aS e1.seats.length e1.cS, .int .i64 e1.hand], .int .i64 n] u fun r w' => r = .returned (.int .i64 (seatedOf (e1.seats.map SeatA.v) n)) ∧ Below u.heap.size u w') := fun u e1 hu hl1 => specSeated_any e1.aS e1.cS e1.seats e1.hand n u hu.own.pool.reads (by omega)
   have HTL : Hid (ts.length ≤ 3) := by
    have h1 := bring_len (e.seats.map SeatA.v) hd ⟨n, pg.lsn, pg.ss.map (·.v), false, true⟩ (by rw [List.length_map]; exact hlen)
    rw [hbv.out] at h1
    rw [Hid]
    simpa using h1
   have HOK : Hid (went = true → ∃ m : Nat, old.no = m ∧ m < 8 ∧ Fit old.ss) := fun hwt => by
    have h1 := bring_old (e.seats.map SeatA.v) hd ⟨n, pg.lsn, pg.ss.map (·.v), false, true⟩ (by rw [hbv.out]; exact hwt) hhb
    rw [hbv.out] at h1
    obtain ⟨s0, hs0, e1, e2⟩ := h1
    obtain ⟨m, hm, hm8⟩ := hp.nos s0 hs0
    exact ⟨m, by rw [← hm, ← e1]; rfl, hm8, fit_of (by have := hp.fitS s0 hs0; rw [← e2] at this; exact this)⟩
   have HOR : Hid (∀ u, Touch [E] W8 u → old.reads u) := fun u hu => (oo8.touch hu (fun j hj hk => (HOE.out j hj).1 (List.mem_singleton.1 hk))).reads
   have HIQ8 : Hid ((Tryz.prog.info? 125).map (·.size) = some [Value.slice a' ts.length c', .int .i64 (hand' : Int)].length) := by rw [Hid]; kernel_rfl
   have HRQ8 : Hid (∀ u (e1 : EngA), EngAt u E e1 → u.rangeAt E 136 [.slice e1.aS e1.seats.length e1.cS, .int .i64 e1.hand]) := HRQ
   clear HRX hHeld bo
   by_cases hw : went = true
   ·subst hw
    by_cases hdi : old.dirty = true
    ·rw [hdi] at d8
     obtain ⟨m, hm, hm8, hfit⟩ := HOK.out rfl
     have C7 := l7Write_any E (e.withPool ts a' c' hand') old W8 S8.at' m hm hm8 HOR.out hfit
     clear HOK HOR hm
     go_wp2_with (first | (guard_target = wpList _ _ _ (Oper.mk (some 45) _ _ _ _ _ :: _) _ _; refine wpList_load_mid rfl 172 (.tmp 6) rfl X 0 rfl old.cells _ r8 Tryz.underlying172 rfl (seat_info old) ?_) | fail)
     refine C7.mono ?_
     clear C7 d8 r8
     rintro r w9 ⟨⟨v9, rfl⟩, e9, he9, hl9, s9⟩
     have S9 := S8.trans s9
     have hq : e9.seats.length ≤ 3 := by
      have h1 := congrArg (fun x : EngV => x.seats.length) he9.out
      simp only [EngA.v, writeV, EngA.withPool, List.length_map] at h1
      have := HTL.out
      omega
     have C9 := HSE.out w9 e9 s9.at' hq
     have HI9 : Hid ((Tryz.prog.info? 125).map (·.size) = some [Value.slice e9.aS e9.seats.length e9.cS, .int .i64 e9.hand].length) := by rw [Hid]; kernel_rfl
     have r9 := HRQ8.out w9 e9 s9.at'
     have HEV : Hid (fetchV e.v n = (e9.v, seatedOf (e9.seats.map SeatA.v) n)) := by
      rw [Hid, HFV.out, if_pos (by first | exact ⟨rfl, hdi⟩ | exact ⟨trivial, hdi⟩), ← he9.out]
      rfl
     clear HFV HSE HTL s9 S8 oo8 hdi
     go_wp2_with (first | (guard_target = wpList _ _ _ (Oper.mk (some 50) _ _ _ _ _ :: _) _ _; refine wpList_load_mid rfl 125 (.tmp 49) rfl E 136 rfl _ _ r9 Tryz.underlying125 rfl HI9.out ?_) | fail)
     refine C9.mono ?_
     rintro r w10 ⟨rfl, hb10⟩
     go_wp2
     go_ret
     exact ⟨e9, _, rfl, HEV, hl9, S9.below hb10⟩
    ·have hdf : old.dirty = false := by simpa using hdi
     rw [hdf] at d8
     have C9 := HSE.out W8 _ S8.at' HTL.out
     have r9 := HRQ8.out W8 _ S8.at'
     have HEV : Hid (fetchV e.v n = ((e.withPool ts a' c' hand').v, seatedOf (ts.map SeatA.v) n)) := by
      rw [Hid, HFV.out, if_neg (fun hh => hdi hh.2)]
      rfl
     clear HFV HSE HTL oo8 hdi hdf HOK HOR r8
     go_wp2_with (first | (guard_target = wpList _ _ _ (Oper.mk (some 50) _ _ _ _ _ :: _) _ _; refine wpList_load_mid rfl 125 (.tmp 49) rfl E 136 rfl _ _ r9 Tryz.underlying125 rfl HIQ8.out ?_) | fail)
     refine C9.mono ?_
     rintro r w10 ⟨rfl, hb10⟩
     go_wp2
     go_ret
     exact ⟨_, _, rfl, HEV, rfl, S8.below hb10⟩
   ·have hwf : went = false := by simpa using hw
    subst hwf
    have C9 := HSE.out W8 _ S8.at' HTL.out
    have r9 := HRQ8.out W8 _ S8.at'
    have HEV : Hid (fetchV e.v n = ((e.withPool ts a' c' hand').v, seatedOf (ts.map SeatA.v) n)) := by
     rw [Hid, HFV.out, if_neg (fun hh => by cases hh.1)]
     rfl
    clear HFV HSE HTL oo8 HOK HOR r8 d8
    go_wp2_with (first | (guard_target = wpList _ _ _ (Oper.mk (some 50) _ _ _ _ _ :: _) _ _; refine wpList_load_mid rfl 125 (.tmp 49) rfl E 136 rfl _ _ r9 Tryz.underlying125 rfl HIQ8.out ?_) | fail)
    refine C9.mono ?_
    rintro r w10 ⟨rfl, hb10⟩
    go_wp2
    go_ret
    exact ⟨_, _, rfl, HEV, rfl, S8.below hb10⟩
  ·obtain ⟨V6, hV6, b6', hb6', hs6⟩ := boxes1 w1 zeroSt.cells 172
   have hV6' : Hid (w1.alloc (.cells #[.int .i64 0, .int .i64 0, .bool false, .int .i64 0, .slice none 0 0, .slice none 0 0, .bool false, .int .i64 0, .slice none 0 0, .slice none 0 0, .bool false, .int .i64 0, .slice none 0 0, .slice none 0 0, .bool false, .int .i64 0, .slice none 0 0, .slice none 0 0, .bool false, .bool false] 172) = V6) := hV6.out
   obtain ⟨W6, hW6⟩ : ∃ W6, Hid (V6.drew = W6) := ⟨_, rfl⟩
   go_simp
   rw [hV6'.out, hW6.out]
   have b6 : Box W6 w1.heap.size zeroSt.cells 172 := by rw [← hW6.out]; exact b6'.drewN 1
   have N6 : Below w1.heap.size w1 W6 := by rw [← hW6.out]; exact hb6'.drew
   have aP := a1.below N6
   have hoX0 := a1.new (Nat.le_refl w1.heap.size)
   refine hK.out _ _ (⟨HSS.out _ _ aP rfl, trivial⟩) (fun hHeld => ?_)
   clear hK K hV6 hV6' hW6 b6' hb6' hs6
   try simp only [Act.put, zA, zB, zC, zD, zE, zF]
   have pP := aP.poolAt
   rw [hhd'] at pP
   have C5 := l6Bring_any 0 W6.heap.size E 136 e.cells TE e.aS e.cS e.seats hd n pg W6 pP (Nat.zero_le _) hlen hhb h4 (HRD.out _ aP) hfit
   clear pP
   refine wpAnyH_ready (rs := [10]) (by kernel_rfl) (by simp) ?_
   refine AllReadyH.cons rfl (fun K hK => ?_) AllReadyH.nil
   go_simp
   refine C5.mono ?_
   clear C5
   rintro r w5 ⟨ts, a', c', hand', old, went, rfl, hbv, br⟩
   have s5 := br.step aP
   have HOE : Hid (∀ j ∈ old.blocks, j ≠ E ∧ j < w1.heap.size) := fun j hj => ⟨fun e1 => h.off (EngA.mem_pool (by rw [← e1]; exact br.wentB j hj)), a1.lt j (EngA.mem_pool (br.wentB j hj))⟩
   have oo5 := br.went
   have q5 := HSS.out _ _ s5.at' rfl
   have hs5 := s5.size
   have b65 := s5.boxes b6 hoX0
   have hoX := s5.off b6.lt hoX0
   refine hK.out _ _ (⟨q5, trivial⟩) (fun hHeld => ?_)
   clear hK K
   try simp only [Act.put, zA, zB, zC, zD, zE, zF]
   refine tk 11 (v := .tuple #[.agg old.cells.toArray, .bool went]) rfl (Or.inl ⟨by rfl, ?_⟩) hHeld ?_
   ·intro w' hSw
    go_simp <;> rfl
   try simp only [Act.put, zA, zB, zC, zD, zE, zF]
   refine tk 12 (v := .agg old.cells.toArray) rfl (Or.inl ⟨by rfl, ?_⟩) hHeld ?_
   ·intro w' hSw
    go_simp <;> rfl
   try simp only [Act.put, zA, zB, zC, zD, zE, zF]
   refine tk 13 (v := .bool went) rfl (Or.inl ⟨by rfl, ?_⟩) hHeld ?_
   ·intro w' hSw
    go_simp <;> rfl
   try simp only [Act.put, zA, zB, zC, zD, zE, zF]
   obtain ⟨W8, hW8, hw8, hs8, HT8, _, bo⟩ := seat_out old _ rfl b65
   have s51 : EngStep E e w1 (e.withPool ts a' c' hand') w5 := EngStep.after N6 s5
   have S8 : EngStep E e w (e.withPool ts a' c' hand') W8 := EngStep.after hb1 (EngStep.put s51 hw8 hoX (Nat.le_refl _))
   have tX : Touch [w1.heap.size] w5 W8 := ⟨hw8.os, hw8.tape, hw8.output, hw8.size, fun j hj hn => hw8.block j hj (fun hh => hn (by simp; omega))⟩
   have oo8 : old.own W8 0 w5.heap.size := oo5.touch tX (fun j hj hk => by have := (HOE.out j hj).2; have := List.mem_singleton.1 hk; omega)
   have HRX : Hid (W8.rangeAt w1.heap.size 0 old.cells) := Box.range [] old.cells [] (by simpa using bo)
   have hW8' : Hid (w5.setCells w1.heap.size 0 old.cells.toArray.toList = W8) := hW8.out
   refine wpAnyH_ready (rs := [15]) (by kernel_rfl) (by simp) ?_
   refine AllReadyH.cons rfl (fun K hK => ?_) AllReadyH.nil
   rw [if_pos (by rfl)]
   refine wp_store_mid 172 (.tmp 6) (.tmp 37) rfl w1.heap.size 0 old.cells.toArray rfl rfl HT8.out (seat_info old) (seat_one old) ?_
   rw [hW8'.out]
   refine hK.out _ _ (⟨HSS.out _ _ S8.at' rfl, trivial⟩) (fun hHeld => ?_)
   clear hK K
   try simp only [Act.put, zA, zB, zC]
   refine tk 16 (v := .bool went) rfl (Or.inl ⟨by rfl, ?_⟩) hHeld ?_
   ·intro w' hSw
    go_simp <;> rfl
   try simp only [Act.put, zA, zB, zC, zD, zE, zF]
   refine wpAnyH_done (by kernel_rfl) ?_ _
   clear hW8' hW8 hw8 hs8 HT8 b6 b65 s5 s51 q5 br aP oo5 ND tX hoX hoX0 N6
   generalize w1.heap.size = X at *
   have r8 := HRX.out
   have d8 := bo.cell 18 _ (show old.cells[18]? = some (.bool old.dirty) from rfl)
   have HFV : Hid (fetchV e.v n = ((if went = true ∧ old.v.dirty = true then writeV (e.withPool ts a' c' hand').v old.v else (e.withPool ts a' c' hand').v), seatedOf (if went = true ∧ old.v.dirty = true then writeV (e.withPool ts a' c' hand').v old.v else (e.withPool ts a' c' hand').v).seats n)) := by
    rw [Hid, fetchV, if_neg (by rw [show e.v.seats = e.seats.map SeatA.v from rfl, HNEG.out]; omega)]
    have e1 : e.v.seats = e.seats.map SeatA.v := rfl
    have e2 : e.v.hand.toNat = hd := by rw [hhd]; rfl
    have e3 : e.v.disk.getD n (0, []) = (pg.lsn, pg.ss.map (·.v)) := HPG.out
    simp only [e1, e2, e3, hbv.out]
    rfl
   have HSE : Hid (∀ u (e1 : EngA), EngAt u E e1 → e1.seats.length ≤ 3 → Calls Tryz.prog 131 #[.agg #[.slice e1.aS e1.seats.length e1.cS, .int .i64 e1.hand], .int .i64 n] u fun r w' => r = .returned (.int .i64 (seatedOf (e1.seats.map SeatA.v) n)) ∧ Below u.heap.size u w') := fun u e1 hu hl1 => specSeated_any e1.aS e1.cS e1.seats e1.hand n u hu.own.pool.reads (by omega)
   have HTL : Hid (ts.length ≤ 3) := by
    have h1 := bring_len (e.seats.map SeatA.v) hd ⟨n, pg.lsn, pg.ss.map (·.v), false, true⟩ (by rw [List.length_map]; exact hlen)
    rw [hbv.out] at h1
    rw [Hid]
    simpa using h1
   have HOK : Hid (went = true → ∃ m : Nat, old.no = m ∧ m < 8 ∧ Fit old.ss) := fun hwt => by
    have h1 := bring_old (e.seats.map SeatA.v) hd ⟨n, pg.lsn, pg.ss.map (·.v), false, true⟩ (by rw [hbv.out]; exact hwt) hhb
    rw [hbv.out] at h1
    obtain ⟨s0, hs0, e1, e2⟩ := h1
    obtain ⟨m, hm, hm8⟩ := hp.nos s0 hs0
    exact ⟨m, by rw [← hm, ← e1]; rfl, hm8, fit_of (by have := hp.fitS s0 hs0; rw [← e2] at this; exact this)⟩
   have HOR : Hid (∀ u, Touch [E] W8 u → old.reads u) := fun u hu => (oo8.touch hu (fun j hj hk => (HOE.out j hj).1 (List.mem_singleton.1 hk))).reads
   have HIQ8 : Hid ((Tryz.prog.info? 125).map (·.size) = some [Value.slice a' ts.length c', .int .i64 (hand' : Int)].length) := by rw [Hid]; kernel_rfl
   have HRQ8 : Hid (∀ u (e1 : EngA), EngAt u E e1 → u.rangeAt E 136 [.slice e1.aS e1.seats.length e1.cS, .int .i64 e1.hand]) := HRQ
   clear HRX hHeld bo
   by_cases hw : went = true
   ·subst hw
    by_cases hdi : old.dirty = true
    ·rw [hdi] at d8
     obtain ⟨m, hm, hm8, hfit⟩ := HOK.out rfl
     have C7 := l7Write_any E (e.withPool ts a' c' hand') old W8 S8.at' m hm hm8 HOR.out hfit
     clear HOK HOR hm
     go_wp2_with (first | (guard_target = wpList _ _ _ (Oper.mk (some 45) _ _ _ _ _ :: _) _ _; refine wpList_load_mid rfl 172 (.tmp 6) rfl X 0 rfl old.cells _ r8 Tryz.underlying172 rfl (seat_info old) ?_) | fail)
     refine C7.mono ?_
     clear C7 d8 r8
     rintro r w9 ⟨⟨v9, rfl⟩, e9, he9, hl9, s9⟩
     have S9 := S8.trans s9
     have hq : e9.seats.length ≤ 3 := by
      have h1 := congrArg (fun x : EngV => x.seats.length) he9.out
      simp only [EngA.v, writeV, EngA.withPool, List.length_map] at h1
      have := HTL.out
      omega
     have C9 := HSE.out w9 e9 s9.at' hq
     have HI9 : Hid ((Tryz.prog.info? 125).map (·.size) = some [Value.slice e9.aS e9.seats.length e9.cS, .int .i64 e9.hand].length) := by rw [Hid]; kernel_rfl
     have r9 := HRQ8.out w9 e9 s9.at'
     have HEV : Hid (fetchV e.v n = (e9.v, seatedOf (e9.seats.map SeatA.v) n)) := by
      rw [Hid, HFV.out, if_pos (by first | exact ⟨rfl, hdi⟩ | exact ⟨trivial, hdi⟩), ← he9.out]
      rfl
     clear HFV HSE HTL s9 S8 oo8 hdi
     go_wp2_with (first | (guard_target = wpList _ _ _ (Oper.mk (some 50) _ _ _ _ _ :: _) _ _; refine wpList_load_mid rfl 125 (.tmp 49) rfl E 136 rfl _ _ r9 Tryz.underlying125 rfl HI9.out ?_) | fail)
     refine C9.mono ?_
     rintro r w10 ⟨rfl, hb10⟩
     go_wp2
     go_ret
     exact ⟨e9, _, rfl, HEV, hl9, S9.below hb10⟩
    ·have hdf : old.dirty = false := by simpa using hdi
     rw [hdf] at d8
     have C9 := HSE.out W8 _ S8.at' HTL.out
     have r9 := HRQ8.out W8 _ S8.at'
     have HEV : Hid (fetchV e.v n = ((e.withPool ts a' c' hand').v, seatedOf (ts.map SeatA.v) n)) := by
      rw [Hid, HFV.out, if_neg (fun hh => hdi hh.2)]
      rfl
     clear HFV HSE HTL oo8 hdi hdf HOK HOR r8
     go_wp2_with (first | (guard_target = wpList _ _ _ (Oper.mk (some 50) _ _ _ _ _ :: _) _ _; refine wpList_load_mid rfl 125 (.tmp 49) rfl E 136 rfl _ _ r9 Tryz.underlying125 rfl HIQ8.out ?_) | fail)
     refine C9.mono ?_
     rintro r w10 ⟨rfl, hb10⟩
     go_wp2
     go_ret
     exact ⟨_, _, rfl, HEV, rfl, S8.below hb10⟩
   ·have hwf : went = false := by simpa using hw
    subst hwf
    have C9 := HSE.out W8 _ S8.at' HTL.out
    have r9 := HRQ8.out W8 _ S8.at'
    have HEV : Hid (fetchV e.v n = ((e.withPool ts a' c' hand').v, seatedOf (ts.map SeatA.v) n)) := by
     rw [Hid, HFV.out, if_neg (fun hh => by cases hh.1)]
     rfl
    clear HFV HSE HTL oo8 HOK HOR r8 d8
    go_wp2_with (first | (guard_target = wpList _ _ _ (Oper.mk (some 50) _ _ _ _ _ :: _) _ _; refine wpList_load_mid rfl 125 (.tmp 49) rfl E 136 rfl _ _ r9 Tryz.underlying125 rfl HIQ8.out ?_) | fail)
    refine C9.mono ?_
    rintro r w10 ⟨rfl, hb10⟩
    go_wp2
    go_ret
    exact ⟨_, _, rfl, HEV, rfl, S8.below hb10⟩
 ·have HF : Hid (fetchV e.v n = ({ e.v with seats := (e.seats.map SeatA.v).set k (hotV (e.seats.getD k zeroSt).v) }, (k : Int))) := by
   have e1 : e.v.seats = e.seats.map SeatA.v := rfl
   rw [Hid, fetchV, e1, hs, if_pos (by omega), Int.toNat_natCast, seatV_at]
  rw [List.length_map] at hk
  obtain ⟨g, W, hg, hgE, hW, hf, hr, st, tW, hsW⟩ := a1.seatSet k hk { (e.seats.getD k zeroSt) with hot := true } 19 (.bool true) (by omega) rfl rfl
  have x0 : w1.cell? ⟨E, 136, none⟩ = some (.slice (some ⟨g, 0, none⟩) e.seats.length e.cS) := by rw [← hg]; exact EngA.cell_at a1.shape a1.box 0 _ rfl
  have x1 := hr 19 _ rfl
  have f1 := hf (k * 20 + 19)
  have hkk : (k : Int) < (e.seats.length : Int) := by omega
  have hk0 : (0 : Int) ≤ (k : Int) := by omega
  have HS : Hid (∃ (e' : EngA) (k' : Int), Ending.returned (.int .i64 (k : Int)) = .returned (.int .i64 k') ∧ Hid (fetchV e.v n = (e'.v, k')) ∧ Hid (e'.log.recs = e.log.recs) ∧ EngStep E e w e' W) := by
   refine ⟨_, k, rfl, ?_, ?_, EngStep.after hb1 st⟩
   rotate_left
   ·rfl
   rw [Hid, HF.out]
   simp only [EngA.v, EngA.withPool, List.map_set]
   rfl
  have hs' : seatedOf (e.seats.map SeatA.v) n = (k : Int) := hs
  clear hs hg hr hf tW hsW st HF
  rw [hs']
  clear hs' hno
  go_wp2_with fail
  rw [hW.out]
  go_ret
  exact HS.out
end Go.Proofs.YtoboickdkednkaaGreatDoor
namespace Go.Proofs.YtoboickdkednkaaGreatDoor
open Go.RowKit
theorem run_append_recD {w : World} (ty : TypeId) (lo hi : Nat) (a : Option Addr) (c : Nat) (rs : List RecA) (hown : OwnRs w lo hi a c rs)
  (b off : Nat) (sc : Nat) (q : RecA) (hr : w.rangeAt b off q.cells) (l u : Nat) (hq : q.own w l u) (hl : lo ≤ l) (hd : ∀ k ∈ q.blocks, k ∉ blocksRs a c rs) (hu : u ≤ w.heap.size)
  (hb : rs.length + 1 ≤ 68719476736) (hlo : lo ≤ hi) :
  ∃ a' c' w', (Builtin.append_ #[24, 24] ty #[.slice a rs.length c, .slice (some ⟨b, off, none⟩) 1 sc]).run Tryz.prog w = .ok (.slice a' (rs ++ [q]).length c') w' ∧ OwnRs w' lo w'.heap.size a' c' (rs ++ [q]) ∧ w.grownBy w' (Value.slice a rs.length c).ownBlock ∧
   (∀ k, (Value.slice a' (rs ++ [q]).length c').ownBlock = some k → (Value.slice a rs.length c).ownBlock = some k ∨ k = w.heap.size) := by
 obtain ⟨i0, hi0, hz0, hz1, hz2⟩ := info_parts Tryz.infoRec
 have htop := hown.top
 obtain ⟨v', w', hrun, h1, h2, _, h5⟩ := run_append_own_at (P := Tryz.prog) w lo 24 ty 39 i0 (.agg zeroR.cells.toArray) 15 200 Tryz.underlying24 hi0 hz0 hz1 hz2 rfl (by decide) _ _ _ hown.row ⟨b, off, none⟩ 1 sc q.cells (by rfl) (by
  intro j v hj
  rw [Addr_add]
  exact hr j v hj) (oneR q) (by simp only [maxLen]; omega) (by omega) (by omega)
 have e : cellsRs rs ++ q.cells = cellsRs (rs ++ [q]) := by rw [cellsRs_app, cellsRs_cons]; simp [cellsRs]
 have e2 : rs.length + 1 = (rs ++ [q]).length := by simp
 rw [e, e2] at h1
 have sh : ∃ a' c', v' = .slice a' (rs ++ [q]).length c' := by
  rcases h1.2 with ⟨rfl, h0⟩ | ⟨g, cap, cur, rfl, _⟩
  ·simp at h0
  ·exact ⟨_, _, rfl⟩
 obtain ⟨a', c', rfl⟩ := sh
 have hsz := h2.size
 have ht : Touch (Value.slice a rs.length c).ownBlock.toList w w' := Touch.of_grown h2 (fun k hk => Option.mem_toList.2 hk)
 have hrow := h1.lt
 have hold : ∀ r ∈ rs, r.own w' lo w'.heap.size := fun r hr => ((hown.each r hr).touch ht (fun k hk hk' => (List.nodup_append.1 hown.apart).2.2 k hk' k (List.mem_flatMap.2 ⟨r, hr, hk⟩) rfl)).widen (Nat.le_refl _) (by omega) (Nat.le_refl _)
 have hnew : q.own w' lo w'.heap.size := (hq.touch ht (fun k hk hk' => hd k hk (List.mem_append.2 (.inl hk')))).widen (by omega) (by omega) (Nat.le_refl _)
 refine ⟨a', c', w', hrun, ⟨h1, Nat.le_refl _, fun k hk => (hrow k hk).2, fun r hr => ?_, ?_⟩, h2, fun k hk => h5.elim (fun h5 => .inl (by rw [← h5]; exact hk)) (fun h5 => by rw [h5] at hk; exact .inr (Option.some.inj hk).symm)⟩
 ·rcases List.mem_append.1 hr with hr | hr
  ·exact hold r hr
  ·obtain rfl := List.mem_singleton.1 hr
   exact hnew
 ·rw [List.flatMap_append, List.nodup_append, List.nodup_append]
  have hap := (List.nodup_append.1 hown.apart).2.1
  refine ⟨by cases (Value.slice a' (rs ++ [q]).length c').ownBlock <;> simp, ⟨hap, by simpa using hq.apart, fun x hx y hy e => ?_⟩, fun x hx y hy e => ?_⟩
  ·simp only [List.flatMap_cons, List.flatMap_nil, List.append_nil] at hy
   subst e
   exact hd x hy (List.mem_append.2 (.inr hx))
  ·have hx' := Option.mem_toList.1 hx
   subst e
   rcases List.mem_append.1 hy with hy | hy
   ·obtain ⟨r, hr, hy⟩ := List.mem_flatMap.1 hy
    exact row_apart h1 (hold r hr) x hx' hy
   ·simp only [List.flatMap_cons, List.flatMap_nil, List.append_nil] at hy
    exact row_apart h1 hnew x hx' hy
theorem step_append_recD {w : World} {ops : Array Oper} {o : Oper} {act : Act} {K : Act → World → Prop} {Q : Exit → Act → World → Prop} {E : Prop} (hgd : o.guard = none) (s x : Operand)
  (ho : o.op = .call { callee := .builtin .append, args := #[s, x], argTypes := #[24, 24] })
  (lo hi : Nat) (a : Option Addr) (c : Nat) (rs : List RecA) (hs : act.eval s = .slice a rs.length c) (hown : OwnRs w lo hi a c rs)
  (b off : Nat) (sc : Nat) (q : RecA) (hx : act.eval x = .slice (some ⟨b, off, none⟩) 1 sc) (hr : w.rangeAt b off q.cells) (l u : Nat) (hq : q.own w l u) (hl : lo ≤ l) (hd : ∀ k ∈ q.blocks, k ∉ blocksRs a c rs) (hu : u ≤ w.heap.size)
  (hb : rs.length + 1 ≤ 68719476736) (hlo : lo ≤ hi)
  (h : ∀ a' c' w', OwnRs w' lo w'.heap.size a' c' (rs ++ [q]) → w.grownBy w' (Value.slice a rs.length c).ownBlock → (∀ k, (Value.slice a' (rs ++ [q]).length c').ownBlock = some k → (Value.slice a rs.length c).ownBlock = some k ∨ k = w.heap.size) → K (act.put o.dst (.slice a' (rs ++ [q]).length c')) w') :
  if Region.wanted o (yielded ops act.tmps) = true then Oper.wp Tryz.prog o act w K Q else E := by
 have hw : Region.wanted o (yielded ops act.tmps) = true := by simp [Region.wanted, hgd]
 rw [if_pos hw]
 obtain ⟨a', c', w', hrun, h2, h3, h4⟩ := run_append_recD (w := w) o.type lo hi a c rs hown b off sc q hr l u hq hl hd hu hb hlo
 unfold Oper.wp
 simp [execOp, ho, resolve, invoke, builtin, hs, hx, hrun, Result.andThen]
 have := h a' c' w' h2 h3 h4
 rw [List.length_append, List.length_singleton] at this
 exact this
end Go.Proofs.YtoboickdkednkaaGreatDoor
namespace Go.Proofs.YtoboickdkednkaaGreatDoor
open Go.RowKit
attribute [local go_sem ↓] Go.wp_at_zero Go.wp_at_succ
def lastV (ls : List LiveV) (tx n : Int) : List LiveV := if 0 ≤ liveOf ls tx then ls.set (liveOf ls tx).toNat { (ls.getD (liveOf ls tx).toNat zeroL) with last := n } else ls
def logV (e : EngV) (r : RecV) : EngV := { e with log := ⟨e.log.recs ++ [{ r with lsn := (e.log.recs.length : Int) + 1 }], e.log.sure⟩, txs := lastV e.txs r.tx ((e.log.recs.length : Int) + 1) }
theorem liveFrom_lt (tx : Int) (ls : List LiveV) (k : Nat) : liveFrom tx ls k = -1 ∨ ∃ j, liveFrom tx ls k = (k + j : Nat) ∧ j < ls.length := by
 induction ls generalizing k with
 | nil => exact .inl rfl
 | cons s r ih =>
  rw [liveFrom]
  by_cases h : s.tx = tx
  ·rw [if_pos h]; exact .inr ⟨0, rfl, by simp⟩
  ·rw [if_neg h]
   rcases ih (k + 1) with h1 | ⟨j, h1, h2⟩
   ·exact .inl h1
   ·exact .inr ⟨j + 1, by rw [h1]; congr 1; omega, by simp; omega⟩
theorem live_cases (ls : List LiveV) (tx : Int) : liveOf ls tx = -1 ∨ ∃ j : Nat, liveOf ls tx = j ∧ j < ls.length := by
 rcases liveFrom_lt tx ls 0 with h | ⟨j, h1, h2⟩
 ·exact .inl h
 ·exact .inr ⟨j, by rw [liveOf, h1]; simp, h2⟩
structure EngMore (E : Nat) (e : EngA) (Q : List Nat) (w : World) (e' : EngA) (w' : World) : Prop where
 at' : EngAt w' E e'
 touch : Touch (E :: (e.blocks ++ Q)) w w'
 fresh : ∀ k ∈ e'.blocks, k ∈ e.blocks ∨ k ∈ Q ∨ w.heap.size ≤ k
theorem EngMore.below {E : Nat} {Q : List Nat} {e e' : EngA} {w w' w'' : World} (s : EngMore E e Q w e' w') (hb : Below w'.heap.size w' w'') : EngMore E e Q w e' w'' :=
 ⟨s.at'.below hb, s.touch.trans (Touch.of_below hb), s.fresh⟩
theorem EngMore.then {E : Nat} {Q : List Nat} {e e1 e2 : EngA} {w w1 w2 : World} (m : EngMore E e Q w e1 w1) (s : EngStep E e1 w1 e2 w2) : EngMore E e Q w e2 w2 := by
 refine ⟨s.at', ⟨s.touch.os.trans m.touch.os, s.touch.tape.trans m.touch.tape, s.touch.output.trans m.touch.output, Nat.le_trans m.touch.size s.size, fun k hk hn => ?_⟩, fun k hk => ?_⟩
 ·have hn1 : k ∉ E :: e1.blocks := fun h => by
   rcases List.mem_cons.1 h with h | h
   ·exact hn (by simp [h])
   ·rcases m.fresh k h with h | h | h
    ·exact hn (List.mem_cons_of_mem _ (List.mem_append.2 (.inl h)))
    ·exact hn (List.mem_cons_of_mem _ (List.mem_append.2 (.inr h)))
    ·omega
  exact (s.touch.block k (Nat.lt_of_lt_of_le hk m.touch.size) hn1).trans (m.touch.block k hk hn)
 ·rcases s.fresh k hk with h | h
  ·exact m.fresh k h
  ·exact .inr (.inr (Nat.le_trans m.touch.size h))
theorem EngMore.step {E : Nat} {Q : List Nat} {e0 e e' : EngA} {w0 w w' : World} (s : EngStep E e0 w0 e w) (m : EngMore E e Q w e' w') (hQ : ∀ k ∈ Q, w0.heap.size ≤ k) : EngStep E e0 w0 e' w' := by
 refine ⟨m.at', ⟨m.touch.os.trans s.touch.os, m.touch.tape.trans s.touch.tape, m.touch.output.trans s.touch.output, Nat.le_trans s.size m.touch.size, fun k hk hn => ?_⟩, fun k hk => ?_⟩
 ·have hn1 : k ∉ E :: (e.blocks ++ Q) := fun h => by
   rcases List.mem_cons.1 h with h | h
   ·exact hn (by simp [h])
   ·rcases List.mem_append.1 h with h | h
    ·rcases s.fresh k h with h | h
     ·exact hn (List.mem_cons_of_mem _ h)
     ·omega
    ·have := hQ k h; omega
  exact (m.touch.block k (Nat.lt_of_lt_of_le hk s.size) hn1).trans (s.touch.block k hk hn)
 ·rcases m.fresh k hk with h | h | h
  ·exact s.fresh k h
  ·exact .inr (hQ k h)
  ·exact .inr (Nat.le_trans s.size h)
theorem EngMore.off {E B : Nat} {Q : List Nat} {e e' : EngA} {w w' : World} (m : EngMore E e Q w e' w') (hB : B < w.heap.size) (ho : Off E e B) (hQ : B ∉ Q) : Off E e' B :=
 ⟨ho.1, fun hk => (m.fresh B hk).elim ho.2 (fun h => h.elim hQ (fun h => by omega))⟩
theorem EngMore.boxes {E B : Nat} {Q : List Nat} {e e' : EngA} {w w' : World} {vs : List Value} {t : TypeId} (m : EngMore E e Q w e' w') (b : Box w B vs t) (ho : Off E e B) (hQ : B ∉ Q) : Box w' B vs t :=
 b.block (m.touch.block B b.lt (fun h => (List.mem_cons.1 h).elim ho.1 (fun h => (List.mem_append.1 h).elim ho.2 hQ)))
theorem nodup_part' {A P P' C : List Nat} (h : (A ++ (P ++ C)).Nodup) (hP : P'.Nodup) (hA : ∀ k ∈ P', k ∉ A) (hC : ∀ k ∈ P', k ∉ C) : (A ++ (P' ++ C)).Nodup := by
 simp only [List.nodup_append, List.mem_append] at h ⊢
 obtain ⟨h1, ⟨_, h3, _⟩, h5⟩ := h
 refine ⟨h1, ⟨hP, h3, fun a ha b hb e => hC a ha (e ▸ hb)⟩, fun a ha b hb e => ?_⟩
 rcases hb with hb | hb
 ·exact hA b hb (e ▸ ha)
 ·exact h5 a ha b (.inr hb) e
theorem EngAt.logQ {w w' : World} {E : Nat} {e : EngA} (h : EngAt w E e) (l : LogA) (Q : List Nat) (hd : ∀ k ∈ Q, k ∉ e.blocks) (hEQ : E ∉ Q) (bx : Box w' E (e.withLog l).cells TE) (ho : OwnRs w' 0 w'.heap.size l.a l.c l.recs)
  (ht : Touch (E :: blocksRs e.log.a e.log.c e.log.recs) w w') (hf : ∀ k ∈ blocksRs l.a l.c l.recs, k ∈ blocksRs e.log.a e.log.c e.log.recs ∨ k ∈ Q ∨ w.heap.size ≤ k) : EngMore E e Q w (e.withLog l) w' := by
 have ap := h.apart
 have hE : ∀ k ∈ e.blocks, k ≠ E := fun k hk he => h.off (he ▸ hk)
 refine ⟨⟨bx, ⟨h.shape.eight, h.shape.four⟩, ⟨?_, ?_, ho, ?_, ?_, ?_⟩, ?_⟩, ?_, ?_⟩
 ·exact (h.own.disk.touch ht (fun k hk => not_part (hE k (EngA.mem_disk hk)) (ap.dl k hk))).widen (Nat.le_refl _) ht.size (Nat.le_refl _)
 ·exact (h.own.pool.touch ht (fun k hk => not_part (hE k (EngA.mem_pool hk)) (fun hp => ap.pl k hk hp))).widen (Nat.le_refl _) ht.size (Nat.le_refl _)
 ·exact (h.own.txs.touch ht (fun k hk => not_part (hE k (EngA.mem_txs (Option.mem_toList.2 hk))) (fun hp => ap.lt k hp (Option.mem_toList.2 hk)))).widen (Nat.le_refl _) ht.size (Nat.le_refl _)
 ·exact (h.own.holds.touch ht (fun k hk => not_part (hE k (EngA.mem_holds (Option.mem_toList.2 hk))) (fun hp => ap.lh k hp (Option.mem_toList.2 hk)))).widen (Nat.le_refl _) ht.size (Nat.le_refl _)
 ·have h1 := h.own.apart
  simp only [EngA.blocks, EngA.withLog] at h1 ⊢
  rw [← List.append_assoc] at h1 ⊢
  have key : ∀ k ∈ blocksRs l.a l.c l.recs, ∀ X : List Nat, (∀ j ∈ X, j ∈ e.blocks) → (∀ j ∈ blocksRs e.log.a e.log.c e.log.recs, j ∉ X) → k ∉ X := fun k hk X hX hn hm => by
   rcases hf k hk with h2 | h2 | h2
   ·exact hn k h2 hm
   ·exact hd k h2 (hX k hm)
   ·have := h.lt k (hX k hm); omega
  refine nodup_part' h1 ho.apart (fun k hk => key k hk _ (fun j hj => ?_) (fun j hj hm => ?_)) (fun k hk => key k hk _ (fun j hj => ?_) (fun j hj hm => ?_))
  ·rcases List.mem_append.1 hj with hj | hj
   ·exact EngA.mem_disk hj
   ·exact EngA.mem_pool hj
  ·rcases List.mem_append.1 hm with hm | hm
   ·exact ap.dl j hm hj
   ·exact ap.pl j hm hj
  ·rcases List.mem_append.1 hj with hj | hj
   ·exact EngA.mem_txs hj
   ·exact EngA.mem_holds hj
  ·rcases List.mem_append.1 hm with hm | hm
   ·exact ap.lt j hj hm
   ·exact ap.lh j hj hm
 ·intro hk
  simp only [EngA.blocks, EngA.withLog, List.mem_append] at hk
  have hlt := h.box.lt
  have hoff := h.off
  simp only [EngA.blocks, List.mem_append] at hoff
  rcases hk with hk | hk | hk | hk
  ·exact hoff (.inl hk)
  ·exact hoff (.inr (.inl hk))
  ·rcases hf E hk with hk | hk | hk
   ·exact hoff (.inr (.inr (.inl hk)))
   ·exact hEQ hk
   ·omega
  ·exact hoff (.inr (.inr (.inr hk)))
 ·exact ht.mono (fun k hk => (List.mem_cons.1 hk).elim (fun h => by simp [h]) (fun h => List.mem_cons_of_mem _ (List.mem_append.2 (.inl (EngA.mem_log h)))))
 ·intro k hk
  simp only [EngA.blocks, EngA.withLog, List.mem_append] at hk ⊢
  rcases hk with hk | hk | hk | hk
  ·exact .inl (.inl hk)
  ·exact .inl (.inr (.inl hk))
  ·rcases hf k hk with h | h | h
   ·exact .inl (.inr (.inr (.inl h)))
   ·exact .inr (.inl h)
   ·exact .inr (.inr h)
  ·exact .inl (.inr (.inr (.inr hk)))
theorem cellsL_set1 (ls : List LiveV) (k : Nat) (hk : k < ls.length) (n : Int) : (cellsL ls).set (k * 3 + 1) (.int .i64 n) = cellsL (ls.set k { (ls.getD k zeroL) with last := n }) := by
 induction ls generalizing k with
 | nil => simp at hk
 | cons s r ih =>
  cases k with
  | zero => simp [cellsL, LiveV.cells]
  | succ k =>
   have := ih k (by simpa using hk)
   have e2 : ∀ x, cellsL (s :: x) = s.cells ++ cellsL x := fun x => by simp [cellsL]
   have l3 : s.cells.length = 3 := rfl
   rw [e2, List.set_append_right _ _ (by rw [l3]; omega), l3, show (k + 1) * 3 + 1 - 3 = k * 3 + 1 by omega, this]
   simp [cellsL]
theorem EngAt.liveSet {w : World} {E : Nat} {e : EngA} (h : EngAt w E e) (k : Nat) (hk : k < e.txs.length) (n : Int) :
  ∃ g W, e.aT = some ⟨g, 0, none⟩ ∧ g ≠ E ∧ g < w.heap.size ∧ Hid (w.setCell ⟨g, k * 3 + 1, none⟩ (.int .i64 n) = W) ∧ (∀ j, w.frozen? ⟨g, j, none⟩ = false) ∧ (∃ v, w.cell? ⟨g, k * 3 + 1, none⟩ = some v) ∧ EngStep E e w (e.withTxs (e.txs.set k { (e.txs.getD k zeroL) with last := n }) e.aT e.cT) W ∧ W.heap.size = w.heap.size := by
 obtain ⟨g, hg⟩ : ∃ g, e.aT = some ⟨g, 0, none⟩ := by
  rcases h.own.txs.1.2 with ⟨_, h0⟩ | ⟨g, cap', cur, hv, _⟩
  ·omega
  ·simp only [Value.slice.injEq] at hv; exact ⟨g, hv.1⟩
 have hmem : g ∈ rowOf e.aT e.txs.length e.cT := by rw [hg]; simp [rowOf, Value.ownBlock]
 have hgE : g ≠ E := fun e1 => h.off (by rw [← e1]; exact EngA.mem_txs hmem)
 have ho := h.own.txs
 rw [hg] at ho
 obtain ⟨h1, h2⟩ := ho.1.stored (k * 3 + 1) (.int .i64 n)
 rw [cellsL_set1 _ _ hk] at h1
 have ht : Touch [g] w (w.setCell ⟨g, k * 3 + 1, none⟩ (.int .i64 n)) := Touch.of_grown h2 (fun j hj => by cases hj; simp)
 have hsz : (w.setCell ⟨g, k * 3 + 1, none⟩ (.int .i64 n)).heap.size = w.heap.size := by simp
 have hc : w.cell? ⟨g, k * 3 + 1, none⟩ = some (.int .i64 (e.txs.getD k zeroL).last) := by
  rw [ho.1.cellAt (k * 3 + 1) (by omega), cellsL_at e.txs k 1 hk (by omega)]; rfl
 refine ⟨g, _, hg, hgE, h.lt g (EngA.mem_txs hmem), rfl, fun j => ho.1.frozenAt j, ⟨_, hc⟩, ?_, hsz⟩
 refine h.lives _ _ _ ?_ ?_ (ht.mono (fun j hj => List.mem_cons_of_mem _ (by rw [List.mem_singleton.1 hj]; exact hmem))) (fun j hj => .inl ?_)
 ·have e1 : (e.withTxs (e.txs.set k { (e.txs.getD k zeroL) with last := n }) e.aT e.cT).cells = e.cells := by
   simp only [EngA.cells, EngA.tail, EngA.withTxs, List.length_set]
  rw [e1]
  exact h.box.touch ht (by simpa using fun e1 => hgE e1.symm)
 ·rw [hg]
  refine ⟨?_, Nat.le_refl _, fun j hj => ?_⟩
  ·rw [List.length_set]; exact h1
  ·cases hj; rw [hsz]; exact h.lt g (EngA.mem_txs hmem)
 ·rw [List.length_set] at hj; exact hj
theorem l7Log_any (E : Nat) (e : EngA) (q : RecA) (w : World) (h : EngAt w E e) (hq : q.own w 0 w.heap.size) (hd : ∀ k ∈ q.blocks, k ∉ e.blocks) (hE : E ∉ q.blocks) (hlen : e.log.recs.length + 1 ≤ 68719476736) (hT : e.txs.length ≤ 1099511627776) :
  Calls Tryz.prog 126 #[.pointer (some ⟨E, 0, none⟩), .agg q.cells.toArray] w fun r w' => r = .returned (.int .i64 ((e.log.recs.length : Int) + 1)) ∧ ∃ e', Hid (e'.v = logV e.v q.v) ∧ Hid (e'.aT = e.aT ∧ e'.cT = e.cT ∧ e'.log.recs = e.log.recs ++ [{ q with lsn := (e.log.recs.length : Int) + 1 }]) ∧ EngMore E e q.blocks w e' w' := by
 obtain ⟨W, hW, b0, hbW, hsW⟩ := boxes1 w q.cells 39
 obtain ⟨p, hp⟩ : ∃ p : RecA, Hid ({ q with lsn := (e.log.recs.length : Int) + 1 } = p) := ⟨_, rfl⟩
 have HPA : Hid (p = { q with lsn := (e.log.recs.length : Int) + 1 }) := hp.out.symm
 have HPB : Hid (p.blocks = q.blocks) := by rw [Hid, ← hp.out]; rfl
 have HPV : Hid (p.v = { q.v with lsn := (e.log.recs.length : Int) + 1 }) := by rw [Hid, ← hp.out]; rfl
 have HPQ : Hid (p.lsn = (e.log.recs.length : Int) + 1 ∧ p.tx = q.tx) := by rw [Hid, ← hp.out]; exact ⟨rfl, rfl⟩
 have op : p.own w 0 w.heap.size := by rw [← hp.out]; exact ⟨hq.bf, hq.af, hq.txs, hq.apart⟩
 obtain ⟨W2, hW2, b2', hw2, hs2⟩ := box_set b0 0 (.int .i64 ((e.log.recs.length : Int) + 1))
 have b2 : Box W2 w.heap.size p.cells 39 := by rw [← hp.out]; exact b2'
 have N2 : Below w.heap.size w W2 := hbW.trans (hw2.below (Nat.le_refl _) (by omega))
 have a1 := h.below hbW
 have a2 := h.below N2
 have op2 := op.below N2
 have hlt2 : w.heap.size < W2.heap.size := b2.lt
 have hEl : E < w.heap.size := h.box.lt
 have x0 : W.cell? ⟨E, 138, none⟩ = some (.slice e.log.a e.log.recs.length e.log.c) := EngA.cell_at a1.shape a1.box 2 _ rfl
 have x1 := b0.cell 0 _ (show q.cells[0]? = some (.int .i64 q.lsn) from rfl)
 have xf := b0.frozen 0
 have HI : Hid ((Tryz.prog.info? 39).map (·.size) = some p.cells.length) := rec_info p
 clear hsW hs2 hw2 b2' hp b0
 go_enter Tryz.func126, Tryz.ntmps126
 go_upto_region 1 with fail
 rw [hW.out]
 clear hW
 go_upto_region 2 with fail
 rw [hW2.out]
 clear hW2 x0 x1 xf
 have ND : Below W2.heap.size W2 W2.drew := (Below.refl _ _).drew
 have aD := a2.below ND
 have bD := b2.below ND b2.lt
 have y0 : W2.drew.cell? ⟨E, 138, none⟩ = some (.slice e.log.a e.log.recs.length e.log.c) := EngA.cell_at aD.shape aD.box 2 _ rfl
 have r4 : W2.drew.rangeAt w.heap.size 0 p.cells := Box.range [] p.cells [] (by simpa using bD)
 refine wp_region_held_drew (S := fun w' => w'.rangeAt w.heap.size 0 p.cells ∧ True) (by kernel_rfl) ?_ (fun hHeld => ?_)
 ·exact ⟨r4, trivial⟩
 refine tk 0 (v := .pointer (some ⟨E, 0, none⟩)) rfl (Or.inl ⟨by rfl, ?_⟩) hHeld ?_
 ·intro w' hSw
  go_simp <;> rfl
 try simp only [Act.put, zA, zB, zD, zE, zF]
 refine tk 1 (v := .pointer (some ⟨E, 0, none⟩)) rfl (Or.inl ⟨by rfl, ?_⟩) hHeld ?_
 ·intro w' hSw
  go_simp <;> rfl
 try simp only [Act.put, zA, zB, zC, zD, zE, zF]
 refine tk 2 (v := .pointer (some ⟨E, 0, none⟩)) rfl (Or.inl ⟨by rfl, ?_⟩) hHeld ?_
 ·intro w' hSw
  go_simp <;> rfl
 try simp only [Act.put, zA, zB, zC, zD, zE, zF]
 refine tk 3 (v := .pointer (some ⟨E, 138, none⟩)) rfl (Or.inl ⟨by rfl, ?_⟩) hHeld ?_
 ·intro w' hSw
  go_simp <;> rfl
 try simp only [Act.put, zA, zB, zC, zD, zE, zF]
 refine tk 4 (v := .pointer (some ⟨E, 138, none⟩)) rfl (Or.inl ⟨by rfl, ?_⟩) hHeld ?_
 ·intro w' hSw
  go_simp <;> rfl
 try simp only [Act.put, zA, zB, zC, zD, zE, zF]
 refine tk 6 rfl (yieldsIf_load_mid (by rfl) _ _ rfl _ _ rfl p.cells _ (fun _ h => h.1) Tryz.underlying39 rfl HI.out) hHeld ?_
 try simp only [Act.put, zA, zB, zC, zD, zE, zF]
 refine wpAnyH_ready (rs := [5, 7]) (by kernel_rfl) (by simp) ?_
 refine AllReadyH.cons rfl (fun K hK => ?_) (AllReadyH.cons rfl (fun K hK => ?_) AllReadyH.nil)
 ·go_simp
  refine hK.out _ _ (hHeld) (fun hHeld => ?_)
  clear hK K
  try simp only [Act.put, zA, zB, zC, zD, zE, zF]
  refine wpAnyH_ready (rs := [7]) (by kernel_rfl) (by simp) ?_
  refine AllReadyH.cons rfl (fun K hK => ?_) AllReadyH.nil
  go_simp
  simp only [cellsR_len, lit_rec, not_true_eq_false, Nat.lt_irrefl, or_self, if_false]
  go_simp
  obtain ⟨V5, hV5, b5', hb5, hs5⟩ := boxes1 W2 p.cells 39
  rw [hV5.out]
  obtain ⟨W5, hW5⟩ : ∃ W5, Hid (V5.drew = W5) := ⟨_, rfl⟩
  rw [hW5.out]
  have b5 : Box W5 W2.heap.size p.cells 39 := by rw [← hW5.out]; exact b5'.drewN 1
  have ND5 : Below W2.heap.size W2 W5 := by rw [← hW5.out]; exact hb5.drew
  have a5 := a2.below ND5
  have op5 := op2.below ND5
  have b25 := b2.below ND5 b2.lt
  have r5 : W5.rangeAt W2.heap.size 0 p.cells := Box.range [] p.cells [] (by simpa using b5)
  have r25 : W5.rangeAt w.heap.size 0 p.cells := Box.range [] p.cells [] (by simpa using b25)
  have hs25 := ND5.size
  clear hs5 hb5 hW5 hV5 b5 b5'
  refine hK.out _ _ (⟨r25, trivial⟩) (fun hHeld => ?_)
  clear hK K
  try simp only [Act.put, zA, zB, zC, zD, zE, zF]
  clear y0 ND aD bD r4
  refine wpAnyH_ready (rs := [8]) (by kernel_rfl) (by simp) ?_
  refine AllReadyH.cons rfl (fun K hK => ?_) AllReadyH.nil
  refine step_append_recD rfl (.tmp 19) (.tmp 21) rfl 0 W5.heap.size e.log.a e.log.c e.log.recs rfl a5.own.log W2.heap.size 0 1 p rfl r5 0 W5.heap.size (op5.widen (Nat.le_refl _) (by omega) (Nat.le_refl _)) (Nat.le_refl _) (fun k hk hk' => hd k (by rw [← HPB.out]; exact hk) (EngA.mem_log hk')) (Nat.le_refl _) hlen (Nat.zero_le _) ?_
  intro a9 c9 w9 o9 g9 f9
  obtain ⟨ys, hys⟩ : ∃ ys, Hid (e.log.recs ++ [p] = ys) := ⟨_, rfl⟩
  have HOB : Hid (∀ k ∈ blocksRs a9 c9 (e.log.recs ++ [p]), k ∈ blocksRs e.log.a e.log.c e.log.recs ∨ k ∈ q.blocks ∨ W5.heap.size ≤ k) := fun k hk => by
   simp only [blocksRs, List.mem_append, Option.mem_toList, List.flatMap_append, List.flatMap_cons, List.flatMap_nil, List.append_nil] at hk ⊢
   rcases hk with hk | hk | hk
   ·rcases f9 k hk with h | h
    ·exact .inl (.inl h)
    ·exact .inr (.inr (by omega))
   ·exact .inl (.inr hk)
   ·exact .inr (.inl (by rw [← HPB.out]; exact hk))
  rw [hys.out] at o9 HOB ⊢
  have t9 : Touch (blocksRs e.log.a e.log.c e.log.recs) W5 w9 := Touch.of_grown g9 (fun k hk => List.mem_append.2 (.inl (Option.mem_toList.2 hk)))
  have hlog : ∀ k ∈ blocksRs e.log.a e.log.c e.log.recs, k < w.heap.size := fun k hk => h.lt k (EngA.mem_log hk)
  have k9 := a5.box.touch t9 (fun hk => h.off (EngA.mem_log hk))
  have b9 := b25.touch t9 (fun hk => by have := hlog _ hk; omega)
  have r9 : w9.rangeAt w.heap.size 0 p.cells := Box.range [] p.cells [] (by simpa using b9)
  have hs9 := t9.size
  refine hK.out _ _ (⟨r9, trivial⟩) (fun hHeld => ?_)
  clear hK K g9 f9
  try simp only [Act.put, zA, zB, zC, zD, zE, zF]
  refine tk 9 (v := .pointer (some ⟨E, 0, none⟩)) rfl (Or.inl ⟨by rfl, ?_⟩) hHeld ?_
  ·intro w' hSw
   go_simp <;> rfl
  try simp only [Act.put, zA, zB, zC, zD, zE, zF]
  refine tk 10 (v := .pointer (some ⟨E, 138, none⟩)) rfl (Or.inl ⟨by rfl, ?_⟩) hHeld ?_
  ·intro w' hSw
   go_simp <;> rfl
  try simp only [Act.put, zA, zB, zC, zD, zE, zF]
  refine tk 11 (v := .pointer (some ⟨E, 138, none⟩)) rfl (Or.inl ⟨by rfl, ?_⟩) hHeld ?_
  ·intro w' hSw
   go_simp <;> rfl
  try simp only [Act.put, zA, zB, zC, zD, zE, zF]
  have m0 : w9.cell? ⟨E, 138, none⟩ = some (.slice e.log.a e.log.recs.length e.log.c) := EngA.cell_at h.shape k9 2 _ rfl
  have mf0 := k9.frozen 138
  obtain ⟨WF, hWF, kF, hwF, hsF⟩ := box_set k9 138 (.slice a9 ys.length c9)
  have hsFa := Nat.le_of_eq hsF
  have hsFb := Nat.le_of_eq hsF.symm
  clear hsF
  have tF : Touch [E] w9 WF := ⟨hwF.os, hwF.tape, hwF.output, hwF.size, fun j hj hn => hwF.block j hj (fun hh => hn (by simp; omega))⟩
  have bF := b9.touch tF (by simp; omega)
  have rF : WF.rangeAt w.heap.size 0 p.cells := Box.range [] p.cells [] (by simpa using bF)
  have hEy : E ∉ blocksRs a9 c9 ys := fun hk => (HOB.out E hk).elim (fun h1 => h.off (EngA.mem_log h1)) (fun h1 => h1.elim hE (fun h2 => by omega))
  have oF := (o9.touch tF (fun k hk hk' => hEy (by rw [← List.mem_singleton.1 hk']; exact hk))).widen (Nat.le_refl _) (show w9.heap.size ≤ WF.heap.size by omega) (Nat.le_refl _)
  have kF' : Box WF E (e.withLog ⟨ys, e.log.sure, a9, c9⟩).cells TE := by
   have e1 : e.cells.set 138 (.slice a9 ys.length c9) = (e.withLog ⟨ys, e.log.sure, a9, c9⟩).cells := EngA.cells_set h.shape 2 _
   rw [← e1]; exact kF
  have M : EngMore E e q.blocks w (e.withLog ⟨ys, e.log.sure, a9, c9⟩) WF := h.logQ ⟨ys, e.log.sure, a9, c9⟩ q.blocks hd hE kF' oF ((Touch.of_below (N2.trans (ND5.mono N2.size))).trans ((t9.mono (fun k hk => List.mem_cons_of_mem _ hk)).trans (tF.mono (by simp)))) (fun k hk => (HOB.out k hk).imp id (fun h1 => h1.imp id (fun h2 => by omega)))
  have HNW : Hid (Off E (e.withLog ⟨ys, e.log.sure, a9, c9⟩) w.heap.size) := ⟨by omega, fun hk => by
   simp only [EngA.blocks, EngA.withLog, List.mem_append] at hk
   rcases hk with hk | hk | hk | hk | hk
   ·have := h.lt _ (EngA.mem_disk hk); omega
   ·have := h.lt _ (EngA.mem_pool hk); omega
   ·rcases HOB.out _ hk with h1 | h1 | h1
    ·have := hlog _ h1; omega
    ·have := (hq.blocks_lt _ h1).2; omega
    ·omega
   ·have := h.lt _ (EngA.mem_txs hk); omega
   ·have := h.lt _ (EngA.mem_holds hk); omega⟩
  refine wpAnyH_ready (rs := [12]) (by kernel_rfl) (by simp) ?_
  refine AllReadyH.cons rfl (fun K hK => ?_) AllReadyH.nil
  go_simp
  rw [hWF.out]
  refine hK.out _ _ (⟨rF, trivial⟩) (fun hHeld => ?_)
  clear hK K
  try simp only [Act.put, zA, zB, zC, zD, zE, zF]
  refine wpAnyH_done (by kernel_rfl) ?_ _
  have HYA : Hid (ys = e.log.recs ++ [{ q with lsn := (e.log.recs.length : Int) + 1 }]) := by rw [Hid, ← hys.out, HPA.out]
  have HYV : Hid (ys.map RecA.v = e.log.recs.map RecA.v ++ [{ q.v with lsn := (e.log.recs.length : Int) + 1 }]) := by rw [Hid, ← hys.out, List.map_append, ← HPV.out]; rfl
  clear m0 mf0 hWF hHeld kF kF' oF hwF tF t9 HOB o9 hEy hys k9 b9 r9 a5 op5 b25 r25 r5 ND5
  obtain ⟨e1, he1⟩ : ∃ e1, Hid (e.withLog ⟨ys, e.log.sure, a9, c9⟩ = e1) := ⟨_, rfl⟩
  rw [he1.out] at M
  have HT1 : Hid (e1.txs = e.txs) := by rw [Hid, ← he1.out]; rfl
  have HAT : Hid (e1.aT = e.aT ∧ e1.cT = e.cT ∧ e1.log.recs = e.log.recs ++ [{ q with lsn := (e.log.recs.length : Int) + 1 }]) := by rw [Hid, ← he1.out]; exact ⟨rfl, rfl, HYA.out⟩
  have hsh1 := M.at'.shape
  have ND6 : Below WF.heap.size WF WF.drew := (Below.refl _ _).drew
  have a6 := M.at'.below ND6
  have b6 := bF.below ND6 bF.lt
  have HRE : Hid (WF.drew.rangeAt E 0 e1.cells ∧ WF.drew.rangeAt w.heap.size 0 p.cells) := ⟨Box.range [] e1.cells [] (by simpa using a6.box), Box.range [] p.cells [] (by simpa using b6)⟩
  have HIE : Hid ((Tryz.prog.info? 128).map (·.size) = some e1.cells.length) := by rw [Hid, EngA.cells_len hsh1]; exact Tryz.infoEng
  go_upto_region 3 with fail
  refine wp_region_held_drew (S := fun w' => w'.rangeAt E 0 e1.cells ∧ w'.rangeAt w.heap.size 0 p.cells) (by kernel_rfl) ?_ (fun hHeld => ?_)
  ·exact HRE.out
  refine tk 0 (v := .pointer (some ⟨E, 0, none⟩)) rfl (Or.inl ⟨by rfl, ?_⟩) hHeld ?_
  ·intro w' hSw
   go_simp <;> rfl
  try simp only [Act.put, zA, zB, zD, zE, zF]
  refine tk 1 (v := .pointer (some ⟨E, 0, none⟩)) rfl (Or.inl ⟨by rfl, ?_⟩) hHeld ?_
  ·intro w' hSw
   go_simp <;> rfl
  try simp only [Act.put, zA, zB, zC, zD, zE, zF]
  refine tk 2 rfl (yieldsIf_load_mid (by rfl) _ _ rfl _ _ rfl e1.cells _ (fun _ h => h.1) Tryz.underlying128 rfl HIE.out) hHeld ?_
  try simp only [Act.put, zA, zB, zC, zD, zE, zF]
  refine tk 3 (v := .pointer (some ⟨w.heap.size, 1, none⟩)) rfl (Or.inl ⟨by rfl, ?_⟩) hHeld ?_
  ·intro w' hSw
   go_simp <;> rfl
  try simp only [Act.put, zA, zB, zC, zD, zE, zF]
  refine tk 4 (v := .int .i64 p.tx) rfl (Or.inl ⟨by rfl, ?_⟩) hHeld ?_
  ·intro w' hSw
   have hx : w'.cell? ⟨w.heap.size, 1, none⟩ = some (.int .i64 p.tx) := hSw.2 1 _ rfl
   go_simp <;> rfl
  try simp only [Act.put, zA, zB, zC, zD, zE, zF]
  refine wpAnyH_ready (rs := [5]) (by kernel_rfl) (by simp) ?_
  refine AllReadyH.cons rfl (fun K hK => ?_) AllReadyH.nil
  go_simp
  refine (l7Live_any e1 hsh1 p.tx WF.drew a6.own.txs.reads (by rw [HT1.out]; exact hT)).mono ?_
  rintro r w7 ⟨rfl, hb7⟩
  have N7 : Below WF.heap.size WF w7 := ND6.trans hb7
  have a7 := M.at'.below N7
  have b7 := bF.below N7 bF.lt
  have M7 := M.below N7
  refine hK.out _ _ (⟨Box.range [] e1.cells [] (by simpa using a7.box), Box.range [] p.cells [] (by simpa using b7)⟩) (fun hHeld => ?_)
  clear hK K
  try simp only [Act.put, zA, zB, zC, zD, zE, zF]
  refine tk 6 (v := .int .i64 (liveOf e1.txs p.tx)) rfl (Or.inl ⟨by rfl, ?_⟩) hHeld ?_
  ·intro w' hSw
   go_simp <;> rfl
  try simp only [Act.put, zA, zB, zC, zD, zE, zF]
  refine wpAnyH_done (by kernel_rfl) ?_ _
  clear hHeld HRE HIE a6 b6 ND6
  have l7 := b7.cell 0 _ (show p.cells[0]? = some (.int .i64 p.lsn) from rfl)
  have HLV : Hid (logV e.v q.v = { e.v with log := ⟨ys.map RecA.v, e.log.sure⟩, txs := lastV e.txs q.tx ((e.log.recs.length : Int) + 1) }) := by
   rw [Hid, HYV.out]
   simp [logV, EngA.v, LogA.v, RecA.v]
  have HPL : Hid (p.lsn = (e.log.recs.length : Int) + 1 ∧ p.tx = q.tx) := HPQ
  rcases live_cases e1.txs p.tx with hneg | ⟨k, hk, hkl⟩
  ·have HEV : Hid (e1.v = logV e.v q.v) := by
    rw [Hid, HLV.out, ← he1.out, lastV, ← HPL.out.2, ← HT1.out, hneg, if_neg (by omega), HT1.out]
    rfl
   rw [hneg]
   clear HLV hneg
   go_wp2
   go_ret
   exact ⟨ret_int HPL.out.1, e1, HEV, HAT, M7⟩
  ·obtain ⟨g, W10, hg, hgE, hgw, hW10, hf, hc, st, hsW⟩ := a7.liveSet k hkl p.lsn
   have x0 : w7.cell? ⟨E, 140, none⟩ = some (.slice (some ⟨g, 0, none⟩) e1.txs.length e1.cT) := by rw [← hg]; exact EngA.cell_at a7.shape a7.box 4 _ rfl
   have HEV : Hid ((e1.withTxs (e1.txs.set k { (e1.txs.getD k zeroL) with last := p.lsn }) e1.aT e1.cT).v = logV e.v q.v) := by
    rw [Hid, HLV.out, ← he1.out, lastV, ← HPL.out.2, ← HT1.out, hk, if_pos (by omega), Int.toNat_natCast, HT1.out, ← HPL.out.1]
    rfl
   have ND8 : Below w7.heap.size w7 w7.drew := (Below.refl _ _).drew
   rw [hk]
   clear hk HLV
   have hkk : (k : Int) < (e1.txs.length : Int) := by omega
   have hk0 : (0 : Int) ≤ (k : Int) := by omega
   go_upto_region 5 with fail
   clear x0 l7
   have a8 := a7.below ND8
   have b8 := b7.below ND8 b7.lt
   have HS8 : Hid (w7.drew.cell? ⟨E, 140, none⟩ = some (.slice (some ⟨g, 0, none⟩) e1.txs.length e1.cT) ∧ w7.drew.rangeAt w.heap.size 0 p.cells) := ⟨by rw [← hg]; exact EngA.cell_at a8.shape a8.box 4 _ rfl, Box.range [] p.cells [] (by simpa using b8)⟩
   have hoff : Off E e1 w.heap.size := by rw [← he1.out]; exact HNW.out
   have ND10 : Below W10.heap.size W10 W10.drew := (Below.refl _ _).drew
   obtain ⟨W11, hW11⟩ : ∃ W11, Hid (W10.drew = W11) := ⟨_, rfl⟩
   rw [hW11.out] at ND10
   have b11 := (st.boxes b7 hoff).below ND10 (st.boxes b7 hoff).lt
   have st2 := st.below ND10
   have M11 := M7.then st2
   have HS11 : Hid (W11.cell? ⟨E, 140, none⟩ = some (.slice (some ⟨g, 0, none⟩) e1.txs.length e1.cT) ∧ W11.rangeAt w.heap.size 0 p.cells) := ⟨by
    have := EngA.cell_at st2.at'.shape st2.at'.box 4 _ rfl
    simp only [EngA.withTxs, List.length_set] at this
    rw [← hg]; exact this, Box.range [] p.cells [] (by simpa using b11)⟩
   have f2 : w7.drew.frozen? ⟨g, k * 3 + 1, none⟩ = false := hf (k * 3 + 1)
   obtain ⟨cv2, hc1⟩ := hc
   have hc2 : w7.drew.cell? ⟨g, k * 3 + 1, none⟩ = some cv2 := hc1
   clear hf hg hsW st st2 b8 a8 b7 a7 M7 N7 hc1 ND10 hoff
   refine wp_region_held_drew (S := fun w' => w'.cell? ⟨E, 140, none⟩ = some (.slice (some ⟨g, 0, none⟩) e1.txs.length e1.cT) ∧ w'.rangeAt w.heap.size 0 p.cells) (by kernel_rfl) ?_ (fun hHeld => ?_)
   ·exact HS8.out
   refine tk 0 (v := .pointer (some ⟨E, 0, none⟩)) rfl (Or.inl ⟨by rfl, ?_⟩) hHeld ?_
   ·intro w' hSw
    go_simp <;> rfl
   try simp only [Act.put, zA, zB, zD, zE, zF]
   refine tk 1 (v := .pointer (some ⟨E, 0, none⟩)) rfl (Or.inl ⟨by rfl, ?_⟩) hHeld ?_
   ·intro w' hSw
    go_simp <;> rfl
   try simp only [Act.put, zA, zB, zC, zD, zE, zF]
   refine tk 2 (v := .pointer (some ⟨E, 140, none⟩)) rfl (Or.inl ⟨by rfl, ?_⟩) hHeld ?_
   ·intro w' hSw
    go_simp <;> rfl
   try simp only [Act.put, zA, zB, zC, zD, zE, zF]
   refine tk 3 (v := .slice (some ⟨g, 0, none⟩) e1.txs.length e1.cT) rfl (Or.inl ⟨by rfl, ?_⟩) hHeld ?_
   ·intro w' hSw
    have hx := hSw.1
    go_simp <;> rfl
   try simp only [Act.put, zA, zB, zC, zD, zE, zF]
   refine tk 4 (v := .int .i64 k) rfl (Or.inl ⟨by rfl, ?_⟩) hHeld ?_
   ·intro w' hSw
    go_simp <;> rfl
   try simp only [Act.put, zA, zB, zC, zD, zE, zF]
   refine tk 5 (v := .pointer (some ⟨w.heap.size, 0, none⟩)) rfl (Or.inl ⟨by rfl, ?_⟩) hHeld ?_
   ·intro w' hSw
    go_simp <;> rfl
   try simp only [Act.put, zA, zB, zC, zD, zE, zF]
   refine tk 6 (v := .int .i64 p.lsn) rfl (Or.inl ⟨by rfl, ?_⟩) hHeld ?_
   ·intro w' hSw
    have hx : w'.cell? ⟨w.heap.size, 0, none⟩ = some (.int .i64 p.lsn) := hSw.2 0 _ rfl
    go_simp <;> rfl
   try simp only [Act.put, zA, zB, zC, zD, zE, zF]
   refine tk 7 (v := .pointer (some ⟨g, k * 3, none⟩)) rfl (Or.inl ⟨by rfl, ?_⟩) hHeld ?_
   ·intro w' hSw
    go_simp <;> rfl
   try simp only [Act.put, zA, zB, zC, zD, zE, zF]
   refine tk 8 (v := .pointer (some ⟨g, k * 3 + 1, none⟩)) rfl (Or.inl ⟨by rfl, ?_⟩) hHeld ?_
   ·intro w' hSw
    go_simp <;> rfl
   try simp only [Act.put, zA, zB, zC, zD, zE, zF]
   refine wpAnyH_ready (rs := [9]) (by kernel_rfl) (by simp) ?_
   refine AllReadyH.cons rfl (fun K hK => ?_) AllReadyH.nil
   go_simp
   rw [hW10.out, hW11.out]
   refine hK.out _ _ (HS11.out) (fun hHeld => ?_)
   clear hK K
   try simp only [Act.put, zA, zB, zC, zD, zE, zF]
   refine wpAnyH_done (by kernel_rfl) ?_ _
   have l11 := b11.cell 0 _ (show p.cells[0]? = some (.int .i64 p.lsn) from rfl)
   clear hHeld HS8 HS11 hW10 hW11 hc2 f2
   go_wp2
   go_ret
   exact ⟨ret_int HPL.out.1, _, HEV, HAT, M11⟩
 ·go_simp
  simp only [cellsR_len, lit_rec, not_true_eq_false, Nat.lt_irrefl, or_self, if_false]
  go_simp
  obtain ⟨V5, hV5, b5', hb5, hs5⟩ := boxes1 W2 p.cells 39
  rw [hV5.out]
  obtain ⟨W5, hW5⟩ : ∃ W5, Hid (V5.drew = W5) := ⟨_, rfl⟩
  rw [hW5.out]
  have b5 : Box W5 W2.heap.size p.cells 39 := by rw [← hW5.out]; exact b5'.drewN 1
  have ND5 : Below W2.heap.size W2 W5 := by rw [← hW5.out]; exact hb5.drew
  have a5 := a2.below ND5
  have op5 := op2.below ND5
  have b25 := b2.below ND5 b2.lt
  have r5 : W5.rangeAt W2.heap.size 0 p.cells := Box.range [] p.cells [] (by simpa using b5)
  have r25 : W5.rangeAt w.heap.size 0 p.cells := Box.range [] p.cells [] (by simpa using b25)
  have hs25 := ND5.size
  clear hs5 hb5 hW5 hV5 b5 b5'
  refine hK.out _ _ (⟨r25, trivial⟩) (fun hHeld => ?_)
  clear hK K
  try simp only [Act.put, zA, zB, zC, zD, zE, zF]
  clear y0 ND aD bD r4
  have y0 : W5.cell? ⟨E, 138, none⟩ = some (.slice e.log.a e.log.recs.length e.log.c) := EngA.cell_at a5.shape a5.box 2 _ rfl
  refine wpAnyH_ready (rs := [5]) (by kernel_rfl) (by simp) ?_
  refine AllReadyH.cons rfl (fun K hK => ?_) AllReadyH.nil
  go_simp
  refine hK.out _ _ (hHeld) (fun hHeld => ?_)
  clear hK K
  try simp only [Act.put, zA, zB, zC, zD, zE, zF]
  clear y0
  refine wpAnyH_ready (rs := [8]) (by kernel_rfl) (by simp) ?_
  refine AllReadyH.cons rfl (fun K hK => ?_) AllReadyH.nil
  refine step_append_recD rfl (.tmp 19) (.tmp 21) rfl 0 W5.heap.size e.log.a e.log.c e.log.recs rfl a5.own.log W2.heap.size 0 1 p rfl r5 0 W5.heap.size (op5.widen (Nat.le_refl _) (by omega) (Nat.le_refl _)) (Nat.le_refl _) (fun k hk hk' => hd k (by rw [← HPB.out]; exact hk) (EngA.mem_log hk')) (Nat.le_refl _) hlen (Nat.zero_le _) ?_
  intro a9 c9 w9 o9 g9 f9
  obtain ⟨ys, hys⟩ : ∃ ys, Hid (e.log.recs ++ [p] = ys) := ⟨_, rfl⟩
  have HOB : Hid (∀ k ∈ blocksRs a9 c9 (e.log.recs ++ [p]), k ∈ blocksRs e.log.a e.log.c e.log.recs ∨ k ∈ q.blocks ∨ W5.heap.size ≤ k) := fun k hk => by
   simp only [blocksRs, List.mem_append, Option.mem_toList, List.flatMap_append, List.flatMap_cons, List.flatMap_nil, List.append_nil] at hk ⊢
   rcases hk with hk | hk | hk
   ·rcases f9 k hk with h | h
    ·exact .inl (.inl h)
    ·exact .inr (.inr (by omega))
   ·exact .inl (.inr hk)
   ·exact .inr (.inl (by rw [← HPB.out]; exact hk))
  rw [hys.out] at o9 HOB ⊢
  have t9 : Touch (blocksRs e.log.a e.log.c e.log.recs) W5 w9 := Touch.of_grown g9 (fun k hk => List.mem_append.2 (.inl (Option.mem_toList.2 hk)))
  have hlog : ∀ k ∈ blocksRs e.log.a e.log.c e.log.recs, k < w.heap.size := fun k hk => h.lt k (EngA.mem_log hk)
  have k9 := a5.box.touch t9 (fun hk => h.off (EngA.mem_log hk))
  have b9 := b25.touch t9 (fun hk => by have := hlog _ hk; omega)
  have r9 : w9.rangeAt w.heap.size 0 p.cells := Box.range [] p.cells [] (by simpa using b9)
  have hs9 := t9.size
  refine hK.out _ _ (⟨r9, trivial⟩) (fun hHeld => ?_)
  clear hK K g9 f9
  try simp only [Act.put, zA, zB, zC, zD, zE, zF]
  refine tk 9 (v := .pointer (some ⟨E, 0, none⟩)) rfl (Or.inl ⟨by rfl, ?_⟩) hHeld ?_
  ·intro w' hSw
   go_simp <;> rfl
  try simp only [Act.put, zA, zB, zC, zD, zE, zF]
  refine tk 10 (v := .pointer (some ⟨E, 138, none⟩)) rfl (Or.inl ⟨by rfl, ?_⟩) hHeld ?_
  ·intro w' hSw
   go_simp <;> rfl
  try simp only [Act.put, zA, zB, zC, zD, zE, zF]
  refine tk 11 (v := .pointer (some ⟨E, 138, none⟩)) rfl (Or.inl ⟨by rfl, ?_⟩) hHeld ?_
  ·intro w' hSw
   go_simp <;> rfl
  try simp only [Act.put, zA, zB, zC, zD, zE, zF]
  have m0 : w9.cell? ⟨E, 138, none⟩ = some (.slice e.log.a e.log.recs.length e.log.c) := EngA.cell_at h.shape k9 2 _ rfl
  have mf0 := k9.frozen 138
  obtain ⟨WF, hWF, kF, hwF, hsF⟩ := box_set k9 138 (.slice a9 ys.length c9)
  have hsFa := Nat.le_of_eq hsF
  have hsFb := Nat.le_of_eq hsF.symm
  clear hsF
  have tF : Touch [E] w9 WF := ⟨hwF.os, hwF.tape, hwF.output, hwF.size, fun j hj hn => hwF.block j hj (fun hh => hn (by simp; omega))⟩
  have bF := b9.touch tF (by simp; omega)
  have rF : WF.rangeAt w.heap.size 0 p.cells := Box.range [] p.cells [] (by simpa using bF)
  have hEy : E ∉ blocksRs a9 c9 ys := fun hk => (HOB.out E hk).elim (fun h1 => h.off (EngA.mem_log h1)) (fun h1 => h1.elim hE (fun h2 => by omega))
  have oF := (o9.touch tF (fun k hk hk' => hEy (by rw [← List.mem_singleton.1 hk']; exact hk))).widen (Nat.le_refl _) (show w9.heap.size ≤ WF.heap.size by omega) (Nat.le_refl _)
  have kF' : Box WF E (e.withLog ⟨ys, e.log.sure, a9, c9⟩).cells TE := by
   have e1 : e.cells.set 138 (.slice a9 ys.length c9) = (e.withLog ⟨ys, e.log.sure, a9, c9⟩).cells := EngA.cells_set h.shape 2 _
   rw [← e1]; exact kF
  have M : EngMore E e q.blocks w (e.withLog ⟨ys, e.log.sure, a9, c9⟩) WF := h.logQ ⟨ys, e.log.sure, a9, c9⟩ q.blocks hd hE kF' oF ((Touch.of_below (N2.trans (ND5.mono N2.size))).trans ((t9.mono (fun k hk => List.mem_cons_of_mem _ hk)).trans (tF.mono (by simp)))) (fun k hk => (HOB.out k hk).imp id (fun h1 => h1.imp id (fun h2 => by omega)))
  have HNW : Hid (Off E (e.withLog ⟨ys, e.log.sure, a9, c9⟩) w.heap.size) := ⟨by omega, fun hk => by
   simp only [EngA.blocks, EngA.withLog, List.mem_append] at hk
   rcases hk with hk | hk | hk | hk | hk
   ·have := h.lt _ (EngA.mem_disk hk); omega
   ·have := h.lt _ (EngA.mem_pool hk); omega
   ·rcases HOB.out _ hk with h1 | h1 | h1
    ·have := hlog _ h1; omega
    ·have := (hq.blocks_lt _ h1).2; omega
    ·omega
   ·have := h.lt _ (EngA.mem_txs hk); omega
   ·have := h.lt _ (EngA.mem_holds hk); omega⟩
  refine wpAnyH_ready (rs := [12]) (by kernel_rfl) (by simp) ?_
  refine AllReadyH.cons rfl (fun K hK => ?_) AllReadyH.nil
  go_simp
  rw [hWF.out]
  refine hK.out _ _ (⟨rF, trivial⟩) (fun hHeld => ?_)
  clear hK K
  try simp only [Act.put, zA, zB, zC, zD, zE, zF]
  refine wpAnyH_done (by kernel_rfl) ?_ _
  have HYA : Hid (ys = e.log.recs ++ [{ q with lsn := (e.log.recs.length : Int) + 1 }]) := by rw [Hid, ← hys.out, HPA.out]
  have HYV : Hid (ys.map RecA.v = e.log.recs.map RecA.v ++ [{ q.v with lsn := (e.log.recs.length : Int) + 1 }]) := by rw [Hid, ← hys.out, List.map_append, ← HPV.out]; rfl
  clear m0 mf0 hWF hHeld kF kF' oF hwF tF t9 HOB o9 hEy hys k9 b9 r9 a5 op5 b25 r25 r5 ND5
  obtain ⟨e1, he1⟩ : ∃ e1, Hid (e.withLog ⟨ys, e.log.sure, a9, c9⟩ = e1) := ⟨_, rfl⟩
  rw [he1.out] at M
  have HT1 : Hid (e1.txs = e.txs) := by rw [Hid, ← he1.out]; rfl
  have HAT : Hid (e1.aT = e.aT ∧ e1.cT = e.cT ∧ e1.log.recs = e.log.recs ++ [{ q with lsn := (e.log.recs.length : Int) + 1 }]) := by rw [Hid, ← he1.out]; exact ⟨rfl, rfl, HYA.out⟩
  have hsh1 := M.at'.shape
  have ND6 : Below WF.heap.size WF WF.drew := (Below.refl _ _).drew
  have a6 := M.at'.below ND6
  have b6 := bF.below ND6 bF.lt
  have HRE : Hid (WF.drew.rangeAt E 0 e1.cells ∧ WF.drew.rangeAt w.heap.size 0 p.cells) := ⟨Box.range [] e1.cells [] (by simpa using a6.box), Box.range [] p.cells [] (by simpa using b6)⟩
  have HIE : Hid ((Tryz.prog.info? 128).map (·.size) = some e1.cells.length) := by rw [Hid, EngA.cells_len hsh1]; exact Tryz.infoEng
  go_upto_region 3 with fail
  refine wp_region_held_drew (S := fun w' => w'.rangeAt E 0 e1.cells ∧ w'.rangeAt w.heap.size 0 p.cells) (by kernel_rfl) ?_ (fun hHeld => ?_)
  ·exact HRE.out
  refine tk 0 (v := .pointer (some ⟨E, 0, none⟩)) rfl (Or.inl ⟨by rfl, ?_⟩) hHeld ?_
  ·intro w' hSw
   go_simp <;> rfl
  try simp only [Act.put, zA, zB, zD, zE, zF]
  refine tk 1 (v := .pointer (some ⟨E, 0, none⟩)) rfl (Or.inl ⟨by rfl, ?_⟩) hHeld ?_
  ·intro w' hSw
   go_simp <;> rfl
  try simp only [Act.put, zA, zB, zC, zD, zE, zF]
  refine tk 2 rfl (yieldsIf_load_mid (by rfl) _ _ rfl _ _ rfl e1.cells _ (fun _ h => h.1) Tryz.underlying128 rfl HIE.out) hHeld ?_
  try simp only [Act.put, zA, zB, zC, zD, zE, zF]
  refine tk 3 (v := .pointer (some ⟨w.heap.size, 1, none⟩)) rfl (Or.inl ⟨by rfl, ?_⟩) hHeld ?_
  ·intro w' hSw
   go_simp <;> rfl
  try simp only [Act.put, zA, zB, zC, zD, zE, zF]
  refine tk 4 (v := .int .i64 p.tx) rfl (Or.inl ⟨by rfl, ?_⟩) hHeld ?_
  ·intro w' hSw
   have hx : w'.cell? ⟨w.heap.size, 1, none⟩ = some (.int .i64 p.tx) := hSw.2 1 _ rfl
   go_simp <;> rfl
  try simp only [Act.put, zA, zB, zC, zD, zE, zF]
  refine wpAnyH_ready (rs := [5]) (by kernel_rfl) (by simp) ?_
  refine AllReadyH.cons rfl (fun K hK => ?_) AllReadyH.nil
  go_simp
  refine (l7Live_any e1 hsh1 p.tx WF.drew a6.own.txs.reads (by rw [HT1.out]; exact hT)).mono ?_
  rintro r w7 ⟨rfl, hb7⟩
  have N7 : Below WF.heap.size WF w7 := ND6.trans hb7
  have a7 := M.at'.below N7
  have b7 := bF.below N7 bF.lt
  have M7 := M.below N7
  refine hK.out _ _ (⟨Box.range [] e1.cells [] (by simpa using a7.box), Box.range [] p.cells [] (by simpa using b7)⟩) (fun hHeld => ?_)
  clear hK K
  try simp only [Act.put, zA, zB, zC, zD, zE, zF]
  refine tk 6 (v := .int .i64 (liveOf e1.txs p.tx)) rfl (Or.inl ⟨by rfl, ?_⟩) hHeld ?_
  ·intro w' hSw
   go_simp <;> rfl
  try simp only [Act.put, zA, zB, zC, zD, zE, zF]
  refine wpAnyH_done (by kernel_rfl) ?_ _
  clear hHeld HRE HIE a6 b6 ND6
  have l7 := b7.cell 0 _ (show p.cells[0]? = some (.int .i64 p.lsn) from rfl)
  have HLV : Hid (logV e.v q.v = { e.v with log := ⟨ys.map RecA.v, e.log.sure⟩, txs := lastV e.txs q.tx ((e.log.recs.length : Int) + 1) }) := by
   rw [Hid, HYV.out]
   simp [logV, EngA.v, LogA.v, RecA.v]
  have HPL : Hid (p.lsn = (e.log.recs.length : Int) + 1 ∧ p.tx = q.tx) := HPQ
  rcases live_cases e1.txs p.tx with hneg | ⟨k, hk, hkl⟩
  ·have HEV : Hid (e1.v = logV e.v q.v) := by
    rw [Hid, HLV.out, ← he1.out, lastV, ← HPL.out.2, ← HT1.out, hneg, if_neg (by omega), HT1.out]
    rfl
   rw [hneg]
   clear HLV hneg
   go_wp2
   go_ret
   exact ⟨ret_int HPL.out.1, e1, HEV, HAT, M7⟩
  ·obtain ⟨g, W10, hg, hgE, hgw, hW10, hf, hc, st, hsW⟩ := a7.liveSet k hkl p.lsn
   have x0 : w7.cell? ⟨E, 140, none⟩ = some (.slice (some ⟨g, 0, none⟩) e1.txs.length e1.cT) := by rw [← hg]; exact EngA.cell_at a7.shape a7.box 4 _ rfl
   have HEV : Hid ((e1.withTxs (e1.txs.set k { (e1.txs.getD k zeroL) with last := p.lsn }) e1.aT e1.cT).v = logV e.v q.v) := by
    rw [Hid, HLV.out, ← he1.out, lastV, ← HPL.out.2, ← HT1.out, hk, if_pos (by omega), Int.toNat_natCast, HT1.out, ← HPL.out.1]
    rfl
   have ND8 : Below w7.heap.size w7 w7.drew := (Below.refl _ _).drew
   rw [hk]
   clear hk HLV
   have hkk : (k : Int) < (e1.txs.length : Int) := by omega
   have hk0 : (0 : Int) ≤ (k : Int) := by omega
   go_upto_region 5 with fail
   clear x0 l7
   have a8 := a7.below ND8
   have b8 := b7.below ND8 b7.lt
   have HS8 : Hid (w7.drew.cell? ⟨E, 140, none⟩ = some (.slice (some ⟨g, 0, none⟩) e1.txs.length e1.cT) ∧ w7.drew.rangeAt w.heap.size 0 p.cells) := ⟨by rw [← hg]; exact EngA.cell_at a8.shape a8.box 4 _ rfl, Box.range [] p.cells [] (by simpa using b8)⟩
   have hoff : Off E e1 w.heap.size := by rw [← he1.out]; exact HNW.out
   have ND10 : Below W10.heap.size W10 W10.drew := (Below.refl _ _).drew
   obtain ⟨W11, hW11⟩ : ∃ W11, Hid (W10.drew = W11) := ⟨_, rfl⟩
   rw [hW11.out] at ND10
   have b11 := (st.boxes b7 hoff).below ND10 (st.boxes b7 hoff).lt
   have st2 := st.below ND10
   have M11 := M7.then st2
   have HS11 : Hid (W11.cell? ⟨E, 140, none⟩ = some (.slice (some ⟨g, 0, none⟩) e1.txs.length e1.cT) ∧ W11.rangeAt w.heap.size 0 p.cells) := ⟨by
    have := EngA.cell_at st2.at'.shape st2.at'.box 4 _ rfl
    simp only [EngA.withTxs, List.length_set] at this
    rw [← hg]; exact this, Box.range [] p.cells [] (by simpa using b11)⟩
   have f2 : w7.drew.frozen? ⟨g, k * 3 + 1, none⟩ = false := hf (k * 3 + 1)
   obtain ⟨cv2, hc1⟩ := hc
   have hc2 : w7.drew.cell? ⟨g, k * 3 + 1, none⟩ = some cv2 := hc1
   clear hf hg hsW st st2 b8 a8 b7 a7 M7 N7 hc1 ND10 hoff
   refine wp_region_held_drew (S := fun w' => w'.cell? ⟨E, 140, none⟩ = some (.slice (some ⟨g, 0, none⟩) e1.txs.length e1.cT) ∧ w'.rangeAt w.heap.size 0 p.cells) (by kernel_rfl) ?_ (fun hHeld => ?_)
   ·exact HS8.out
   refine tk 0 (v := .pointer (some ⟨E, 0, none⟩)) rfl (Or.inl ⟨by rfl, ?_⟩) hHeld ?_
   ·intro w' hSw
    go_simp <;> rfl
   try simp only [Act.put, zA, zB, zD, zE, zF]
   refine tk 1 (v := .pointer (some ⟨E, 0, none⟩)) rfl (Or.inl ⟨by rfl, ?_⟩) hHeld ?_
   ·intro w' hSw
    go_simp <;> rfl
   try simp only [Act.put, zA, zB, zC, zD, zE, zF]
   refine tk 2 (v := .pointer (some ⟨E, 140, none⟩)) rfl (Or.inl ⟨by rfl, ?_⟩) hHeld ?_
   ·intro w' hSw
    go_simp <;> rfl
   try simp only [Act.put, zA, zB, zC, zD, zE, zF]
   refine tk 3 (v := .slice (some ⟨g, 0, none⟩) e1.txs.length e1.cT) rfl (Or.inl ⟨by rfl, ?_⟩) hHeld ?_
   ·intro w' hSw
    have hx := hSw.1
    go_simp <;> rfl
   try simp only [Act.put, zA, zB, zC, zD, zE, zF]
   refine tk 4 (v := .int .i64 k) rfl (Or.inl ⟨by rfl, ?_⟩) hHeld ?_
   ·intro w' hSw
    go_simp <;> rfl
   try simp only [Act.put, zA, zB, zC, zD, zE, zF]
   refine tk 5 (v := .pointer (some ⟨w.heap.size, 0, none⟩)) rfl (Or.inl ⟨by rfl, ?_⟩) hHeld ?_
   ·intro w' hSw
    go_simp <;> rfl
   try simp only [Act.put, zA, zB, zC, zD, zE, zF]
   refine tk 6 (v := .int .i64 p.lsn) rfl (Or.inl ⟨by rfl, ?_⟩) hHeld ?_
   ·intro w' hSw
    have hx : w'.cell? ⟨w.heap.size, 0, none⟩ = some (.int .i64 p.lsn) := hSw.2 0 _ rfl
    go_simp <;> rfl
   try simp only [Act.put, zA, zB, zC, zD, zE, zF]
   refine tk 7 (v := .pointer (some ⟨g, k * 3, none⟩)) rfl (Or.inl ⟨by rfl, ?_⟩) hHeld ?_
   ·intro w' hSw
    go_simp <;> rfl
   try simp only [Act.put, zA, zB, zC, zD, zE, zF]
   refine tk 8 (v := .pointer (some ⟨g, k * 3 + 1, none⟩)) rfl (Or.inl ⟨by rfl, ?_⟩) hHeld ?_
   ·intro w' hSw
    go_simp <;> rfl
   try simp only [Act.put, zA, zB, zC, zD, zE, zF]
   refine wpAnyH_ready (rs := [9]) (by kernel_rfl) (by simp) ?_
   refine AllReadyH.cons rfl (fun K hK => ?_) AllReadyH.nil
   go_simp
   rw [hW10.out, hW11.out]
   refine hK.out _ _ (HS11.out) (fun hHeld => ?_)
   clear hK K
   try simp only [Act.put, zA, zB, zC, zD, zE, zF]
   refine wpAnyH_done (by kernel_rfl) ?_ _
   have l11 := b11.cell 0 _ (show p.cells[0]? = some (.int .i64 p.lsn) from rfl)
   clear hHeld HS8 HS11 hW10 hW11 hc2 f2
   go_wp2
   go_ret
   exact ⟨ret_int HPL.out.1, _, HEV, HAT, M11⟩
end Go.Proofs.YtoboickdkednkaaGreatDoor