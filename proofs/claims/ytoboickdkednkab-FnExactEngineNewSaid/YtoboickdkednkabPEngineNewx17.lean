/- Several texts in one, in their order. -/
import Derived.Test.YtoboickdkednkabPEngineNewx15
import Derived.Test.YtoboickdkednkabPEngineNewx9
import Derived.Test.YtoboickdkednkabPEngineNewx16
import Derived.Test.YtoboickdkednkabPEngineNewx13
/- Engines in the laws: the walks of laws.eqEngine, laws.markEngine, laws.heldEngine. -/
namespace Go.Proofs.Ytoboickdkednkab
open Go.RowKit

def EngA.poolA (e : EngA) : PoolA := ⟨e.seats, e.hand, e.aS, e.cS⟩
theorem EngA.shape.disk8 {e : EngA} (h : e.shape) : Disk8 e.disk := ⟨h.eight, h.four⟩
structure EngA.reads (w : World) (e : EngA) : Prop where
  disk : ∀ p ∈ e.disk, ReadsS w p.ss
  pool : e.poolA.reads w
  log : e.log.reads w
  txs : ReadsL w e.aT e.txs
  holds : ReadsH w e.aH e.holds
structure EngA.short (e : EngA) (m : Nat) : Prop where
  disk : ∀ p ∈ e.disk, ∀ x ∈ p.ss, x.v.o.ints.length ≤ m ∧ x.v.o.refs.length ≤ m
  pool : e.poolA.short m
  log : e.log.short m
  txs : e.txs.length ≤ m
  holds : e.holds.length ≤ m
theorem EngA.short.fit {e : EngA} (h : e.short 1099511627776) : ∀ p ∈ e.disk, Fit p.ss := fun p hp s hs => h.disk p hp s hs
theorem EngA.reads.below {w w' : World} {e : EngA} (h : e.reads w) (hb : Below w.heap.size w w') : e.reads w' :=
  ⟨fun p hp => (h.disk p hp).below hb, h.pool.below hb, h.log.below hb, h.txs.below hb, h.holds.below hb⟩
theorem OwnS.readsAll {w : World} {lo hi : Nat} {ps : List PageA} (h : OwnS w lo hi (ps.flatMap (·.ss))) : ∀ p ∈ ps, ReadsS w p.ss := fun p hp s hs => h.reads s (List.mem_flatMap.2 ⟨p, hp, hs⟩)
theorem EngA.own.reads {w : World} {lo hi : Nat} {e : EngA} (h : e.own w lo hi) : e.reads w := ⟨OwnS.readsAll h.disk, OwnSts.reads h.pool, OwnRs.reads h.log, h.txs.reads, h.holds.reads⟩
/-- Where the parts of an engine in a box lie. -/
theorem eng_parts {w : World} {B : Nat} {t : TypeId} {e : EngA} (h : e.shape) (b : Box w B e.cells t) :
    w.rangeAt B 0 (cellsPs e.disk) ∧ w.rangeAt B 136 e.poolA.cells ∧ w.rangeAt B 138 e.log.cells ∧ w.cell? ⟨B, 140, none⟩ = some (.slice e.aT e.txs.length e.cT) ∧ w.cell? ⟨B, 141, none⟩ = some (.slice e.aH e.holds.length e.cH) ∧ w.cell? ⟨B, 142, none⟩ = some (.int .i64 e.next) ∧ w.cell? ⟨B, 143, none⟩ = some (.bool e.down) := by
  have hl := EngA.disk_len h
  refine ⟨?_, ?_, ?_, EngA.cell_at h b 4 _ rfl, EngA.cell_at h b 5 _ rfl, EngA.cell_at h b 6 _ rfl, EngA.cell_at h b 7 _ rfl⟩
  · exact Box.range [] (cellsPs e.disk) e.tail b
  · have := Box.range (cellsPs e.disk) e.poolA.cells [.slice e.log.a e.log.recs.length e.log.c, .int .i64 e.log.sure, .slice e.aT e.txs.length e.cT, .slice e.aH e.holds.length e.cH, .int .i64 e.next, .bool e.down] b
    rwa [hl] at this
  · have := Box.range (cellsPs e.disk ++ e.poolA.cells) e.log.cells [.slice e.aT e.txs.length e.cT, .slice e.aH e.holds.length e.cH, .int .i64 e.next, .bool e.down] (by rw [List.append_assoc]; exact b)
    rw [List.length_append, hl] at this
    exact this
set_option maxHeartbeats 2000000 in
set_option maxRecDepth 100000 in
theorem eqEngine_same (e f : EngA) (se : e.shape) (sf : f.shape) (he : f.v = e.v) (w : World) (re : e.reads w) (rf : f.reads w) (hl : e.short 1099511627776) :
    Calls Try.prog 6 #[.agg e.cells.toArray, .agg f.cells.toArray] w fun r w' => r = .returned (.bool true) ∧ Below w.heap.size w w' := by
  simp only [EngA.v, EngV.mk.injEq] at he
  obtain ⟨h1, h2, h3, h4, h5, h6, h7, h8⟩ := he
  have HD : Hid (f.disk.map pgv = e.disk.map pgv) := h1
  have HPV : Hid (f.poolA.v = e.poolA.v) := by rw [Hid, PoolA.v, PoolA.v]; simp only [EngA.poolA, h2, h3]
  have HLV : Hid (f.log.v = e.log.v) := h4
  obtain ⟨W, hW, b0, b1, hbW, hsW⟩ := boxes2 w e.cells f.cells 40 40
  have HE : Hid (∀ u, Below W.heap.size W u → _) := fun u hu => eng_parts se (b0.below hu b0.lt)
  have HF : Hid (∀ u, Below W.heap.size W u → _) := fun u hu => eng_parts sf (b1.below hu b1.lt)
  have HR : Hid (∀ u, Below W.heap.size W u → e.reads u ∧ f.reads u) := fun u hu => ⟨(re.below hbW).below hu, (rf.below hbW).below hu⟩
  have hie := disk8_info se.disk8
  have hif := disk8_info sf.disk8
  clear h1 h2 h3 h4 hsW b0 b1
  have N : Below W.heap.size W W := Below.refl _ _
  obtain ⟨p0, p1, p2, p3, p4, p5, p6⟩ := HE.out _ N
  obtain ⟨q0, q1, q2, q3, q4, q5, q6⟩ := HF.out _ N
  go_enter Try.func6, Try.ntmps6
  go_wp2_with (first | (guard_target = wpList _ _ _ (Oper.mk (some 6) _ _ _ _ _ :: _) _ _; refine wpList_load_mid rfl 30 (.tmp 5) rfl w.heap.size 0 rfl (cellsPs e.disk) _ (by rw [hW.out]; exact p0) Try.underlying30 rfl hie ?_) | (guard_target = wpList _ _ _ (Oper.mk (some 8) _ _ _ _ _ :: _) _ _; refine wpList_load_mid rfl 30 (.tmp 7) rfl (w.heap.size + 1) 0 rfl (cellsPs f.disk) _ (by rw [hW.out]; exact q0) Try.underlying30 rfl hif ?_) | fail)
  rw [hW.out]
  clear hW
  refine (eqPageA8_same e.disk f.disk se.disk8 sf.disk8 HD.out W (HR.out _ N).1.disk (HR.out _ N).2.disk hl.fit).mono ?_
  rintro r w1 ⟨rfl, hbw1⟩
  replace N := N.trans (hbw1.mono N.size)
  clear p0 p1 p2 p3 p4 p5 p6 q0 q1 q2 q3 q4 q5 q6 hbw1
  obtain ⟨p0, p1, p2, p3, p4, p5, p6⟩ := HE.out _ N
  obtain ⟨q0, q1, q2, q3, q4, q5, q6⟩ := HF.out _ N
  go_wp2_with (first | (guard_target = wpList _ _ _ (Oper.mk (some 12) _ _ _ _ _ :: _) _ _; refine wpList_load_mid rfl 33 (.tmp 11) rfl w.heap.size 136 rfl (e.poolA.cells) _ p1 Try.underlying33 rfl (pool_info _) ?_) | (guard_target = wpList _ _ _ (Oper.mk (some 14) _ _ _ _ _ :: _) _ _; refine wpList_load_mid rfl 33 (.tmp 13) rfl (w.heap.size + 1) 136 rfl (f.poolA.cells) _ q1 Try.underlying33 rfl (pool_info _) ?_) | fail)
  refine (eqPool_same e.poolA f.poolA HPV.out w1 (HR.out _ N).1.pool (HR.out _ N).2.pool hl.pool).mono ?_
  rintro r w2 ⟨rfl, hbw2⟩
  replace N := N.trans (hbw2.mono N.size)
  clear p0 p1 p2 p3 p4 p5 p6 q0 q1 q2 q3 q4 q5 q6 hbw2
  obtain ⟨p0, p1, p2, p3, p4, p5, p6⟩ := HE.out _ N
  obtain ⟨q0, q1, q2, q3, q4, q5, q6⟩ := HF.out _ N
  go_wp2_with (first | (guard_target = wpList _ _ _ (Oper.mk (some 18) _ _ _ _ _ :: _) _ _; refine wpList_load_mid rfl 36 (.tmp 17) rfl w.heap.size 138 rfl (e.log.cells) _ p2 Try.underlying36 rfl (log_info _) ?_) | (guard_target = wpList _ _ _ (Oper.mk (some 20) _ _ _ _ _ :: _) _ _; refine wpList_load_mid rfl 36 (.tmp 19) rfl (w.heap.size + 1) 138 rfl (f.log.cells) _ q2 Try.underlying36 rfl (log_info _) ?_) | fail)
  refine (eqLog_same e.log f.log HLV.out w2 (HR.out _ N).1.log (HR.out _ N).2.log hl.log).mono ?_
  rintro r w3 ⟨rfl, hbw3⟩
  replace N := N.trans (hbw3.mono N.size)
  clear p0 p1 p2 p3 p4 p5 p6 q0 q1 q2 q3 q4 q5 q6 hbw3
  obtain ⟨p0, p1, p2, p3, p4, p5, p6⟩ := HE.out _ N
  obtain ⟨q0, q1, q2, q3, q4, q5, q6⟩ := HF.out _ N
  rw [h5] at q3
  have C4 := eqLiveS_same e.aT f.aT e.cT f.cT e.txs w3 (HR.out _ N).1.txs (by have := (HR.out _ N).2.txs; rwa [h5] at this) hl.txs
  go_wp2_with fail
  refine (C4).mono ?_
  rintro r w4 ⟨rfl, hbw4⟩
  replace N := N.trans (hbw4.mono N.size)
  clear p0 p1 p2 p3 p4 p5 p6 q0 q1 q2 q3 q4 q5 q6 hbw4
  obtain ⟨p0, p1, p2, p3, p4, p5, p6⟩ := HE.out _ N
  obtain ⟨q0, q1, q2, q3, q4, q5, q6⟩ := HF.out _ N
  clear C4
  rw [h6] at q4
  have C5 := eqHoldS_same e.aH f.aH e.cH f.cH e.holds w4 (HR.out _ N).1.holds (by have := (HR.out _ N).2.holds; rwa [h6] at this) hl.holds
  go_wp2_with fail
  refine (C5).mono ?_
  rintro r w5 ⟨rfl, hbw5⟩
  replace N := N.trans (hbw5.mono N.size)
  clear p0 p1 p2 p3 p4 p5 p6 q0 q1 q2 q3 q4 q5 q6 hbw5
  obtain ⟨p0, p1, p2, p3, p4, p5, p6⟩ := HE.out _ N
  obtain ⟨q0, q1, q2, q3, q4, q5, q6⟩ := HF.out _ N
  clear C5
  rw [h7] at q5
  rw [h8] at q6
  have HEND : Hid (Below w.heap.size w w5) := hbW.trans (N.mono hbW.size)
  clear h5 h6 h7 h8
  go_wp2
  go_ret
  exact ⟨rfl, HEND.out⟩

/-- An engine whose lists are marked from k on. -/
def EngA.kP (e : EngA) (k : Int) : Int := k + countS (slots8 e.disk)
def EngA.kL (e : EngA) (k : Int) : Int := e.kP k + e.poolA.count
def EngA.kT (e : EngA) (k : Int) : Int := e.kL k + e.log.count
def EngA.kH (e : EngA) (k : Int) : Int := e.kT k + 3 * e.txs.length
def EngA.kE (e : EngA) (k : Int) : Int := e.kH k + 2 * e.holds.length
structure EngA.marked (w : World) (lo hi : Nat) (e : EngA) (k : Int) : Prop where
  disk : OwnS w lo hi (markSs (slots8 e.disk) k)
  pool : (e.poolA.mark (e.kP k)).own w lo hi
  log : (e.log.mark (e.kL k)).own w lo hi
  txs : OwnL w lo hi e.aT e.cT (marksL (e.kT k) e.txs.length)
  holds : OwnH w lo hi e.aH e.cH (marksH (e.kH k) e.holds.length)
theorem EngA.marked.touch {w w' : World} {lo hi : Nat} {e : EngA} {k : Int} {bl : List Nat} (h : e.marked w lo hi k) (ht : Touch bl w w') (hd : ∀ j ∈ e.blocks, j ∉ bl) : e.marked w' lo hi k := by
  simp only [EngA.blocks, List.mem_append] at hd
  refine ⟨h.disk.touch ht (fun j hj => hd j (.inl (by rw [markSs_blocks] at hj; exact hj))), h.pool.touch ht (fun j hj => hd j (.inr (.inl ?_))), h.log.touch ht (fun j hj => hd j (.inr (.inr (.inl ?_)))), h.txs.touch ht (fun j hj => hd j (.inr (.inr (.inr (.inl ?_))))), h.holds.touch ht (fun j hj => hd j (.inr (.inr (.inr (.inr ?_)))))⟩
  · simpa [PoolA.blocks, PoolA.mark, blocksSts, markSts_len, markSts_blocks, EngA.poolA] using hj
  · simpa [LogA.blocks, LogA.mark, blocksRs, markRs_len, markRs_blocks] using hj
  · rw [marksL_len] at hj; exact Option.mem_toList.2 hj
  · rw [marksH_len] at hj; exact Option.mem_toList.2 hj
theorem EngA.marked.below {w w' : World} {lo hi : Nat} {e : EngA} {k : Int} (h : e.marked w lo hi k) (hb : Below w.heap.size w w') : e.marked w' lo hi k :=
  ⟨h.disk.below hb, h.pool.below hb, h.log.below hb, h.txs.below hb, h.holds.below hb⟩

set_option maxHeartbeats 2000000 in
set_option maxRecDepth 100000 in
theorem markEngine_touch (e : EngA) (se : e.shape) (lo hi : Nat) (k0 : Int) (w : World) (ho : e.own w lo hi) (hl : e.short 1099511627776) (h0 : 0 ≤ k0) (hk : e.kE k0 ≤ 10995116277760) (hhi : hi ≤ w.heap.size) :
    Calls Try.prog 7 #[.agg e.cells.toArray, .int .i64 k0] w fun r w' => r = .returned (.int .i64 (e.kE k0)) ∧ e.marked w' lo hi k0 ∧ Touch e.blocks w w' := by
  have hbl := ho.blocks_lt
  have HAP := ho.apart
  obtain ⟨W, hW, b0, hbW, hsW⟩ := boxes1 w e.cells 40
  have hs0 : w.heap.size < W.heap.size := by omega
  have hwB : w.heap.size ∉ e.blocks := fun h => by have := (hbl _ h).2; omega
  have HE : Hid (∀ u, Touch e.blocks W u → _) := fun u hu => eng_parts se (b0.touch hu hwB)
  have hie := disk8_info se.disk8
  have hb1 : 0 ≤ e.kP k0 ∧ e.kP k0 ≤ 10995116277760 ∧ 0 ≤ e.kL k0 ∧ e.kL k0 ≤ 10995116277760 ∧ 0 ≤ e.kT k0 ∧ e.kT k0 ≤ 10995116277760 ∧ 0 ≤ e.kH k0 ∧ e.kH k0 ≤ 10995116277760 := by unfold EngA.kE EngA.kH EngA.kT EngA.kL EngA.kP at *; omega
  simp only [EngA.blocks, List.nodup_append, List.mem_append] at HAP
  obtain ⟨_, ⟨_, ⟨_, ⟨_, _, a45⟩, a3⟩, a2⟩, a1⟩ := HAP
  have od := ho.disk.below hbW
  have op : e.poolA.own W lo hi := OwnSts.below ho.pool hbW
  have ol : e.log.own W lo hi := OwnRs.below ho.log hbW
  have ot := ho.txs.below hbW
  have oh := ho.holds.below hbW
  have N : Touch e.blocks W W := Touch.refl _ _
  obtain ⟨p0, p1, p2, p3, p4, _, _⟩ := HE.out _ N
  have C1 := markPageA8_touch e.disk se.disk8 lo hi k0 W od hl.fit h0 (by have := hb1.2.1; unfold EngA.kP at this; exact this) (by omega)
  go_enter Try.func7, Try.ntmps7
  go_wp2_with (first | (guard_target = wpList _ _ _ (Oper.mk (some 6) _ _ _ _ _ :: _) _ _; refine wpList_load_mid rfl 30 (.tmp 5) rfl w.heap.size 0 rfl (cellsPs e.disk) _ (by rw [hW.out]; exact p0) Try.underlying30 rfl hie ?_) | fail)
  rw [hW.out]
  clear hW hsW
  refine C1.mono ?_
  clear C1 p0 p1 p2 p3 p4 od
  rintro r w1 ⟨rfl, od, t1⟩
  have T1 : Touch e.blocks W w1 := t1.mono (fun k hk => List.mem_append.2 (.inl hk))
  replace op : e.poolA.own w1 lo hi := op.touch t1 (fun k hk hk' => a1 k hk' k (.inl hk) rfl)
  replace ol : e.log.own w1 lo hi := ol.touch t1 (fun k hk hk' => a1 k hk' k (.inr (.inl hk)) rfl)
  replace ot := ot.touch t1 (fun k hk hk' => a1 k hk' k (.inr (.inr (.inl (Option.mem_toList.2 hk)))) rfl)
  replace oh := oh.touch t1 (fun k hk hk' => a1 k hk' k (.inr (.inr (.inr (Option.mem_toList.2 hk)))) rfl)
  obtain ⟨p0, p1, p2, p3, p4, _, _⟩ := HE.out _ T1
  have C2 := markPool_touch e.poolA lo hi (e.kP k0) w1 op hl.pool hb1.1 (by have := hb1.2.2.2.1; unfold EngA.kL at this; omega)
  go_wp2_with (first | (guard_target = wpList _ _ _ (Oper.mk (some 10) _ _ _ _ _ :: _) _ _; refine wpList_load_mid rfl 33 (.tmp 9) rfl w.heap.size 136 rfl (e.poolA.cells) _ p1 Try.underlying33 rfl (pool_info _) ?_) | fail)
  refine C2.mono ?_
  clear C2 p0 p1 p2 p3 p4 op t1
  rintro r w2 ⟨rfl, op, t2⟩
  have hpb : e.poolA.blocks = blocksSts e.aS e.cS e.seats := rfl
  have T2 : Touch e.blocks W w2 := T1.trans (t2.mono (fun k hk => List.mem_append.2 (.inr (List.mem_append.2 (.inl hk)))))
  replace od := od.touch t2 (fun k hk hk' => a1 k (by rw [markSs_blocks] at hk; exact hk) k (.inl hk') rfl)
  replace ol : e.log.own w2 lo hi := ol.touch t2 (fun k hk hk' => a2 k hk' k (.inl hk) rfl)
  replace ot := ot.touch t2 (fun k hk hk' => a2 k hk' k (.inr (.inl (Option.mem_toList.2 hk))) rfl)
  replace oh := oh.touch t2 (fun k hk hk' => a2 k hk' k (.inr (.inr (Option.mem_toList.2 hk))) rfl)
  obtain ⟨p0, p1, p2, p3, p4, _, _⟩ := HE.out _ T2
  have C3 := markLog_touch e.log lo hi (e.kL k0) w2 ol hl.log hb1.2.2.1 (by have := hb1.2.2.2.2.2.1; unfold EngA.kT at this; omega)
  go_wp2_with (first | (guard_target = wpList _ _ _ (Oper.mk (some 14) _ _ _ _ _ :: _) _ _; refine wpList_load_mid rfl 36 (.tmp 13) rfl w.heap.size 138 rfl (e.log.cells) _ p2 Try.underlying36 rfl (log_info _) ?_) | fail)
  refine C3.mono ?_
  clear C3 p0 p1 p2 p3 p4 ol t2
  rintro r w3 ⟨rfl, ol, t3⟩
  have T3 : Touch e.blocks W w3 := T2.trans (t3.mono (fun k hk => List.mem_append.2 (.inr (List.mem_append.2 (.inr (List.mem_append.2 (.inl hk)))))))
  replace od := od.touch t3 (fun k hk hk' => a1 k (by rw [markSs_blocks] at hk; exact hk) k (.inr (.inl hk')) rfl)
  replace op : (e.poolA.mark (e.kP k0)).own w3 lo hi := op.touch t3 (fun k hk hk' => a2 k (by simpa [PoolA.blocks, PoolA.mark, blocksSts, markSts_len, markSts_blocks, EngA.poolA] using hk) k (.inl hk') rfl)
  replace ot := ot.touch t3 (fun k hk hk' => a3 k hk' k (.inl (Option.mem_toList.2 hk)) rfl)
  replace oh := oh.touch t3 (fun k hk hk' => a3 k hk' k (.inr (Option.mem_toList.2 hk)) rfl)
  obtain ⟨p0, p1, p2, p3, p4, _, _⟩ := HE.out _ T3
  have C4 := markLiveS_own lo hi e.aT e.cT (e.kT k0) e.txs w3 ot hb1.2.2.2.2.1 (by have := hb1.2.2.2.2.2.2.2; unfold EngA.kH at this; omega)
  have E3 : Hid (e.kL k0 + (e.log.count : Int) = e.kT k0) := rfl
  rw [E3.out]
  go_wp2_with fail
  refine C4.mono ?_
  clear C4 p0 p1 p2 p3 p4 ot t3 E3
  rintro r w4 ⟨rfl, ot, t4⟩
  have T4 : Touch e.blocks W w4 := T3.trans (t4.mono (fun k hk => List.mem_append.2 (.inr (List.mem_append.2 (.inr (List.mem_append.2 (.inr (List.mem_append.2 (.inl hk)))))))))
  replace od := od.touch t4 (fun k hk hk' => a1 k (by rw [markSs_blocks] at hk; exact hk) k (.inr (.inr (.inl hk'))) rfl)
  replace op : (e.poolA.mark (e.kP k0)).own w4 lo hi := op.touch t4 (fun k hk hk' => a2 k (by simpa [PoolA.blocks, PoolA.mark, blocksSts, markSts_len, markSts_blocks, EngA.poolA] using hk) k (.inr (.inl hk')) rfl)
  replace ol : (e.log.mark (e.kL k0)).own w4 lo hi := ol.touch t4 (fun k hk hk' => a3 k (by simpa [LogA.blocks, LogA.mark, blocksRs, markRs_len, markRs_blocks] using hk) k (.inl hk') rfl)
  replace oh := oh.touch t4 (fun k hk hk' => a45 k hk' k (Option.mem_toList.2 hk) rfl)
  obtain ⟨p0, p1, p2, p3, p4, _, _⟩ := HE.out _ T4
  have C5 := markHoldS_own lo hi e.aH e.cH (e.kH k0) e.holds w4 oh hb1.2.2.2.2.2.2.1 (by unfold EngA.kE at hk; omega)
  have E4 : Hid (e.kT k0 + 3 * (e.txs.length : Int) = e.kH k0) := rfl
  rw [E4.out]
  go_wp2_with fail
  refine C5.mono ?_
  clear C5 p0 p1 p2 p3 p4 oh E4
  rintro r w5 ⟨rfl, oh, t5⟩
  have T5 : Touch e.blocks W w5 := T4.trans (t5.mono (fun k hk => List.mem_append.2 (.inr (List.mem_append.2 (.inr (List.mem_append.2 (.inr (List.mem_append.2 (.inr hk)))))))))
  replace od := od.touch t5 (fun k hk hk' => a1 k (by rw [markSs_blocks] at hk; exact hk) k (.inr (.inr (.inr hk'))) rfl)
  replace op : (e.poolA.mark (e.kP k0)).own w5 lo hi := op.touch t5 (fun k hk hk' => a2 k (by simpa [PoolA.blocks, PoolA.mark, blocksSts, markSts_len, markSts_blocks, EngA.poolA] using hk) k (.inr (.inr hk')) rfl)
  replace ol : (e.log.mark (e.kL k0)).own w5 lo hi := ol.touch t5 (fun k hk hk' => a3 k (by simpa [LogA.blocks, LogA.mark, blocksRs, markRs_len, markRs_blocks] using hk) k (.inr hk') rfl)
  replace ot := ot.touch t5 (fun k hk hk' => a45 k (by rw [marksL_len] at hk; exact Option.mem_toList.2 hk) k hk' rfl)
  have HEND : Hid (e.marked w5 lo hi k0 ∧ Touch e.blocks w w5) := ⟨⟨od, op, ol, ot, oh⟩, (Touch.of_below hbW).trans T5⟩
  go_wp2
  go_ret
  exact ⟨rfl, HEND.out.1, HEND.out.2⟩

set_option maxHeartbeats 2000000 in
set_option maxRecDepth 100000 in
theorem heldEngine_any (e : EngA) (se : e.shape) (lo hi : Nat) (k0 : Int) (w : World) (ho : e.marked w lo hi k0) (hl : e.short 1099511627776) (h0 : 0 ≤ k0) (hk : e.kE k0 ≤ 10995116277760) :
    Calls Try.prog 8 #[.agg e.cells.toArray, .int .i64 k0] w fun r w' => r = .returned (.int .i64 (e.kE k0)) ∧ Below w.heap.size w w' := by
  obtain ⟨W, hW, b0, hbW, hsW⟩ := boxes1 w e.cells 40
  have HE : Hid (∀ u, Below W.heap.size W u → _) := fun u hu => eng_parts se (b0.below hu b0.lt)
  have hie := disk8_info se.disk8
  have hb1 : 0 ≤ e.kP k0 ∧ e.kP k0 ≤ 10995116277760 ∧ 0 ≤ e.kL k0 ∧ e.kL k0 ≤ 10995116277760 ∧ 0 ≤ e.kT k0 ∧ e.kT k0 ≤ 10995116277760 ∧ 0 ≤ e.kH k0 ∧ e.kH k0 ≤ 10995116277760 ∧ 0 ≤ e.kE k0 := by unfold EngA.kE EngA.kH EngA.kT EngA.kL EngA.kP at *; omega
  have HM : Hid (∀ u, Below W.heap.size W u → e.marked u lo hi k0) := fun u hu => (ho.below hbW).below hu
  have N : Below W.heap.size W W := Below.refl _ _
  obtain ⟨p0, p1, p2, p3, p4, _, _⟩ := HE.out _ N
  have C1 := heldPageA8_any e.disk se.disk8 lo hi k0 W (HM.out _ N).disk hl.fit h0 (by have := hb1.2.1; unfold EngA.kP at this; exact this)
  go_enter Try.func8, Try.ntmps8
  go_wp2_with (first | (guard_target = wpList _ _ _ (Oper.mk (some 6) _ _ _ _ _ :: _) _ _; refine wpList_load_mid rfl 30 (.tmp 5) rfl w.heap.size 0 rfl (cellsPs e.disk) _ (by rw [hW.out]; exact p0) Try.underlying30 rfl hie ?_) | fail)
  rw [hW.out]
  clear hW hsW
  refine C1.mono ?_
  clear C1 p0 p1 p2 p3 p4
  rintro r w1 ⟨rfl, hb⟩
  replace N := N.trans (hb.mono N.size)
  obtain ⟨p0, p1, p2, p3, p4, _, _⟩ := HE.out _ N
  have E1 : Hid (k0 + (countS (slots8 e.disk) : Int) = e.kP k0) := rfl
  rw [E1.out]
  have n1 : ¬ e.kP k0 < 0 := by omega
  have C2 := heldPool_any e.poolA lo hi (e.kP k0) w1 (HM.out _ N).pool hl.pool.len hb1.1 (by have := hb1.2.2.2.1; unfold EngA.kL at this; omega)
  clear hb E1
  go_wp2_with (first | (guard_target = wpList _ _ _ (Oper.mk (some 12) _ _ _ _ _ :: _) _ _; refine wpList_load_mid rfl 33 (.tmp 11) rfl w.heap.size 136 rfl (e.poolA.cells) _ p1 Try.underlying33 rfl (pool_info _) ?_) | fail)
  refine C2.mono ?_
  clear C2 p0 p1 p2 p3 p4
  rintro r w2 ⟨rfl, hb⟩
  replace N := N.trans (hb.mono N.size)
  obtain ⟨p0, p1, p2, p3, p4, _, _⟩ := HE.out _ N
  have E1 : Hid (e.kP k0 + (e.poolA.count : Int) = e.kL k0) := rfl
  rw [E1.out]
  have n2 : ¬ e.kL k0 < 0 := by omega
  have C3 := heldLog_any e.log lo hi (e.kL k0) w2 (HM.out _ N).log hl.log.len hb1.2.2.1 (by have := hb1.2.2.2.2.2.1; unfold EngA.kT at this; omega)
  clear hb E1
  go_wp2_with (first | (guard_target = wpList _ _ _ (Oper.mk (some 18) _ _ _ _ _ :: _) _ _; refine wpList_load_mid rfl 36 (.tmp 17) rfl w.heap.size 138 rfl (e.log.cells) _ p2 Try.underlying36 rfl (log_info _) ?_) | fail)
  refine C3.mono ?_
  clear C3 p0 p1 p2 p3 p4
  rintro r w3 ⟨rfl, hb⟩
  replace N := N.trans (hb.mono N.size)
  obtain ⟨p0, p1, p2, p3, p4, _, _⟩ := HE.out _ N
  have E1 : Hid (e.kL k0 + (e.log.count : Int) = e.kT k0) := rfl
  rw [E1.out]
  have n3 : ¬ e.kT k0 < 0 := by omega
  have C4 := heldLiveS_any e.aT e.cT (e.kT k0) e.txs.length w3 (HM.out _ N).txs.reads hb1.2.2.2.2.1 (by have := hb1.2.2.2.2.2.2.2.1; unfold EngA.kH at this; omega)
  clear hb E1
  go_wp2_with fail
  refine C4.mono ?_
  clear C4
  rintro r w4 ⟨rfl, rfl⟩
  have E1 : Hid (e.kT k0 + 3 * (e.txs.length : Int) = e.kH k0) := rfl
  rw [E1.out]
  have n4 : ¬ e.kH k0 < 0 := by omega
  have C5 := heldHoldS_any e.aH e.cH (e.kH k0) e.holds.length w4 (HM.out _ N).holds.reads hb1.2.2.2.2.2.2.1 (by unfold EngA.kE at hk; omega)
  clear E1
  go_wp2_with fail
  refine C5.mono ?_
  clear C5
  rintro r w5 ⟨rfl, rfl⟩
  have E1 : Hid (e.kH k0 + 2 * (e.holds.length : Int) = e.kE k0) := rfl
  rw [E1.out]
  have n5 : ¬ e.kE k0 < 0 := by omega
  have HEND : Hid (Below w.heap.size w w5) := hbW.trans (N.mono hbW.size)
  go_wp2
  go_ret
  exact ⟨rfl, HEND.out⟩
end Go.Proofs.Ytoboickdkednkab

/- The walk of laws.FnExactEngineNew. -/
namespace Go.Proofs.Ytoboickdkednkab
open Go.RowKit

theorem newE_pages : ∀ p ∈ newE.disk, p = zeroP := fun p hp => by
  simp only [newE, EngA.withNext, zeroE, List.mem_cons, List.not_mem_nil, or_false] at hp
  rcases hp with h | h | h | h | h | h | h | h <;> exact h
theorem newE_short : newE.short 1099511627776 := by
  refine ⟨fun p hp x hx => ?_, ⟨Nat.zero_le _, fun r hr => by cases hr⟩, ⟨Nat.zero_le _, fun r hr => by cases hr⟩, Nat.zero_le _, Nat.zero_le _⟩
  rw [newE_pages p hp] at hx
  have h2 : x = zeroS := by simpa [zeroP] using hx
  rw [h2]
  exact ⟨Nat.zero_le _, Nat.zero_le _⟩
theorem newE_k : newE.kE 1 = 1 := by kernel_rfl
set_option maxHeartbeats 4000000 in
set_option maxRecDepth 100000 in
theorem lawEngineNew_walk (w : World) : Calls Try.prog 3 #[] w fun e w' => e = .returned (.bool true) ∧ Below w.heap.size w w' := by
  obtain ⟨Q, hQ⟩ : ∃ Q, Hid (newE = Q) := ⟨_, rfl⟩
  have CS := fun u => engineNew_any u
  have CI := fun u => implEngineNew_any u
  have sQ : Q.shape := by rw [← hQ.out]; exact newE_shape
  have HO : Hid (∀ u : World, Q.own u 0 u.heap.size) := by rw [← hQ.out]; exact newE_own
  have HS : Hid (Q.short 1099511627776) := by rw [← hQ.out]; exact newE_short
  have HK : Hid (Q.kE 1 = 1) := by rw [← hQ.out]; exact newE_k
  have HB : Hid (Q.blocks = []) := by rw [← hQ.out]; exact newE_blocks
  have HI : Hid ((Try.prog.info? 40).map (·.size) = some Q.cells.length) := eng_info sQ
  have HC := all_oneCell_toArray (oneE Q)
  rw [hQ.out] at CS CI
  clear hQ
  obtain ⟨Z, hZ⟩ : ∃ Z, Hid (zeroE = Z) := ⟨_, rfl⟩
  have sZ : Z.shape := by rw [← hZ.out]; exact zeroE_shape
  have N : Below w.heap.size w w := Below.refl _ _
  go_enter Try.func3, Try.ntmps3
  go_wp2_with fail
  refine (CS _).mono ?_
  rintro e w1 ⟨rfl, hb⟩
  replace N := N.trans (hb.mono N.size)
  have sw1 := hb.size
  clear hb
  obtain ⟨Zw2, hZw2, bZ, hbZ, hsZ⟩ := boxes1 w1 Z.cells 40
  obtain ⟨w2, hSw2, hwZ, hzZ, HTw2, b1⟩ := eng_out sQ sZ bZ
  have hbw2 : Below w1.heap.size w1 w2 := hbZ.trans (hwZ.below (Nat.le_refl _) (by omega))
  clear bZ hbZ hsZ hwZ hzZ
  replace N := N.trans (hbw2.mono N.size)
  have sw2 := hbw2.size
  clear hbw2
  have lw2 := b1.lt
  go_wp2_with (first | (guard_target = wpList _ _ _ (Oper.mk (some 1) (Op.alloc _) _ _ _ _ :: _) _ _; refine alloc_eng ?_; rw [hZ.out]) | (guard_target = wpList _ _ _ (Oper.mk none (Op.store _ (Operand.tmp 1) _) _ _ _ _ :: _) _ _; refine wpList_store_mid rfl 40 (.tmp 1) (.tmp 6) rfl w1.heap.size 0 (Q.cells).toArray rfl rfl (by rw [hZw2.out]; exact HTw2.out) (by rw [List.size_toArray]; exact HI.out) HC ?_) | fail)
  rw [hZw2.out, hSw2.out]
  clear hZw2 hSw2 HTw2
  refine (CI _).mono ?_
  rintro e w3 ⟨rfl, hb⟩
  replace b1 := b1.below hb b1.lt
  replace N := N.trans (hb.mono N.size)
  have sw3 := hb.size
  clear hb
  obtain ⟨Zw4, hZw4, bZ, hbZ, hsZ⟩ := boxes1 w3 Z.cells 40
  obtain ⟨w4, hSw4, hwZ, hzZ, HTw4, b2⟩ := eng_out sQ sZ bZ
  have hbw4 : Below w3.heap.size w3 w4 := hbZ.trans (hwZ.below (Nat.le_refl _) (by omega))
  clear bZ hbZ hsZ hwZ hzZ
  replace b1 := b1.below hbw4 b1.lt
  replace N := N.trans (hbw4.mono N.size)
  have sw4 := hbw4.size
  clear hbw4
  have lw4 := b2.lt
  go_wp2_with (first | (guard_target = wpList _ _ _ (Oper.mk (some 2) (Op.alloc _) _ _ _ _ :: _) _ _; refine alloc_eng ?_; rw [hZ.out]) | (guard_target = wpList _ _ _ (Oper.mk none (Op.store _ (Operand.tmp 2) _) _ _ _ _ :: _) _ _; refine wpList_store_mid rfl 40 (.tmp 2) (.tmp 7) rfl w3.heap.size 0 (Q.cells).toArray rfl rfl (by rw [hZw4.out]; exact HTw4.out) (by rw [List.size_toArray]; exact HI.out) HC ?_) | (guard_target = wpList _ _ _ (Oper.mk (some 8) _ _ _ _ _ :: _) _ _; refine wpList_load_mid rfl 40 (.tmp 2) rfl w3.heap.size 0 rfl (Q.cells) _ (by rw [hZw4.out, hSw4.out]; exact (Box.range [] (Q.cells) [] (by simpa using b2))) Try.underlying40 rfl HI.out ?_) | (guard_target = wpList _ _ _ (Oper.mk (some 9) _ _ _ _ _ :: _) _ _; refine wpList_load_mid rfl 40 (.tmp 1) rfl w1.heap.size 0 rfl (Q.cells) _ (by rw [hZw4.out, hSw4.out]; exact (Box.range [] (Q.cells) [] (by simpa using b1))) Try.underlying40 rfl HI.out ?_) | fail)
  rw [hZw4.out, hSw4.out]
  clear hZw4 hSw4 HTw4
  refine (eqEngine_same Q Q sQ sQ rfl w4 (HO.out w4).reads (HO.out w4).reads HS.out).mono ?_
  rintro e w5 ⟨rfl, hb⟩
  replace b1 := b1.below hb b1.lt
  replace b2 := b2.below hb b2.lt
  replace N := N.trans (hb.mono N.size)
  have s5 := hb.size
  clear hb
  go_wp2_with (first | (guard_target = wpList _ _ _ (Oper.mk (some 12) _ _ _ _ _ :: _) _ _; refine wpList_load_mid rfl 40 (.tmp 2) rfl w3.heap.size 0 rfl (Q.cells) _ (Box.range [] (Q.cells) [] (by simpa using b2)) Try.underlying40 rfl HI.out ?_) | fail)
  refine (markEngine_touch Q sQ 0 w5.heap.size 1 w5 (HO.out w5) HS.out (by omega) (by rw [HK.out]; omega) (Nat.le_refl _)).mono ?_
  rintro e w6 ⟨rfl, om, tm⟩
  rw [HB.out] at tm
  have hb : Below w5.heap.size w5 w6 := (tm.within (lo := w5.heap.size) (hi := w5.heap.size) (fun k hk => by cases hk)).below (Nat.le_refl _) (Nat.le_refl _)
  replace b1 := b1.below hb b1.lt
  replace b2 := b2.below hb b2.lt
  replace N := N.trans (hb.mono N.size)
  have s6 := hb.size
  clear hb tm
  have hk1 : (1 : Int) = Q.kE 1 := HK.out.symm
  rw [HK.out]
  clear hk1
  go_wp2_with (first | (guard_target = wpList _ _ _ (Oper.mk (some 15) _ _ _ _ _ :: _) _ _; refine wpList_load_mid rfl 40 (.tmp 2) rfl w3.heap.size 0 rfl (Q.cells) _ (Box.range [] (Q.cells) [] (by simpa using b2)) Try.underlying40 rfl HI.out ?_) | fail)
  refine (heldEngine_any Q sQ 0 w5.heap.size 1 w6 om HS.out (by omega) (by rw [HK.out]; omega)).mono ?_
  rintro e w7 ⟨rfl, hb⟩
  replace om := om.below hb
  replace b1 := b1.below hb b1.lt
  replace b2 := b2.below hb b2.lt
  replace N := N.trans (hb.mono N.size)
  have sw7 := hb.size
  clear hb
  rw [HK.out]
  go_wp2_with fail
  refine (CI _).mono ?_
  rintro e w8 ⟨rfl, hb⟩
  replace om := om.below hb
  replace b1 := b1.below hb b1.lt
  replace b2 := b2.below hb b2.lt
  replace N := N.trans (hb.mono N.size)
  have s8 := hb.size
  clear hb
  obtain ⟨Zw9, hZw9, bZ, hbZ, hsZ⟩ := boxes1 w8 Z.cells 40
  obtain ⟨w9, hSw9, hwZ, hzZ, HTw9, b3⟩ := eng_out sQ sZ bZ
  have hbw9 : Below w8.heap.size w8 w9 := hbZ.trans (hwZ.below (Nat.le_refl _) (by omega))
  clear bZ hbZ hsZ hwZ hzZ
  replace om := om.below hbw9
  replace b1 := b1.below hbw9 b1.lt
  replace b2 := b2.below hbw9 b2.lt
  replace N := N.trans (hbw9.mono N.size)
  have sw9 := hbw9.size
  clear hbw9
  go_wp2_with (first | (guard_target = wpList _ _ _ (Oper.mk (some 5) (Op.alloc _) _ _ _ _ :: _) _ _; refine alloc_eng ?_; rw [hZ.out]) | (guard_target = wpList _ _ _ (Oper.mk none (Op.store _ (Operand.tmp 5) _) _ _ _ _ :: _) _ _; refine wpList_store_mid rfl 40 (.tmp 5) (.tmp 23) rfl w8.heap.size 0 (Q.cells).toArray rfl rfl (by rw [hZw9.out]; exact HTw9.out) (by rw [List.size_toArray]; exact HI.out) HC ?_) | (guard_target = wpList _ _ _ (Oper.mk (some 24) _ _ _ _ _ :: _) _ _; refine wpList_load_mid rfl 40 (.tmp 5) rfl w8.heap.size 0 rfl (Q.cells) _ (by rw [hZw9.out, hSw9.out]; exact (Box.range [] (Q.cells) [] (by simpa using b3))) Try.underlying40 rfl HI.out ?_) | (guard_target = wpList _ _ _ (Oper.mk (some 25) _ _ _ _ _ :: _) _ _; refine wpList_load_mid rfl 40 (.tmp 1) rfl w1.heap.size 0 rfl (Q.cells) _ (by rw [hZw9.out, hSw9.out]; exact (Box.range [] (Q.cells) [] (by simpa using b1))) Try.underlying40 rfl HI.out ?_) | fail)
  rw [hZw9.out, hSw9.out]
  clear hZw9 hSw9 HTw9
  refine (eqEngine_same Q Q sQ sQ rfl w9 (HO.out w9).reads (HO.out w9).reads HS.out).mono ?_
  rintro e w10 ⟨rfl, hb⟩
  replace om := om.below hb
  replace b1 := b1.below hb b1.lt
  replace b2 := b2.below hb b2.lt
  replace b3 := b3.below hb b3.lt
  replace N := N.trans (hb.mono N.size)
  have s10 := hb.size
  clear hb
  go_wp2_with (first | (guard_target = wpList _ _ _ (Oper.mk (some 28) _ _ _ _ _ :: _) _ _; refine wpList_load_mid rfl 40 (.tmp 2) rfl w3.heap.size 0 rfl (Q.cells) _ (Box.range [] (Q.cells) [] (by simpa using b2)) Try.underlying40 rfl HI.out ?_) | fail)
  refine (heldEngine_any Q sQ 0 w5.heap.size 1 w10 om HS.out (by omega) (by rw [HK.out]; omega)).mono ?_
  rintro e w11 ⟨rfl, hb⟩
  replace om := om.below hb
  replace b1 := b1.below hb b1.lt
  replace b2 := b2.below hb b2.lt
  replace b3 := b3.below hb b3.lt
  replace N := N.trans (hb.mono N.size)
  have sw11 := hb.size
  clear hb
  rw [HK.out]
  clear CS CI
  go_wp2
  go_ret
  exact ⟨rfl, N⟩
end Go.Proofs.Ytoboickdkednkab
