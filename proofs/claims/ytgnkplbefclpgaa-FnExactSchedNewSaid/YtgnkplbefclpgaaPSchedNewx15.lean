/- Several texts in one, in their order. -/
import Derived.Test.YtgnkplbefclpgaaPSchedNewx13
import Derived.Test.YtgnkplbefclpgaaPSchedNewx8
import Derived.Test.YtgnkplbefclpgaaPSchedNewx14
import Derived.Test.YtgnkplbefclpgaaPSchedNewx12
import Derived.ProofKit
import Derived.OpenShut
import Derived.ChangeOld
import Derived.Test.YtgnkplbefclpgaaPSchedNewx10
import Derived.Test.YtgnkplbefclpgaaPSchedNewx9
import Derived.Deep.OwnRows
import Derived.Test.YtgnkplbefclpgaaPSchedNewx4
import Derived.Test.YtgnkplbefclpgaaPSchedNewx1
set_option maxHeartbeats 8000000
set_option maxRecDepth 100000
namespace Go.Proofs.Ytgnkplbefclpgaa
open Go.RowKit
def EngA.poolA (e : EngA) : PoolA := ⟨e.seats, e.hand, e.aS, e.cS⟩
theorem EngA.shape.disk8 {e : EngA} (h : e.shape) : Disk8 e.disk := ⟨h.eight, h.four⟩
structure EngA.reads (w : World) (e : EngA) : Prop where
 disk : ∀ p ∈ e.disk, ReadsS w p.ss
 pool : e.poolA.reads w
 log : e.log.reads w
 txs : ReadsL w e.aT e.txs
 holds : ReadsH w e.aH e.holds
structure EngA.short (e : EngA) (m : Nat) : Prop where
 disk : ∀ p ∈ e.disk, ∀ x ∈ p.ss, x.v.o.ints.length ≤ m ∧ x.v.o.refs.length ≤ m
 pool : e.poolA.short m
 log : e.log.short m
 txs : e.txs.length ≤ m
 holds : e.holds.length ≤ m
theorem EngA.short.fit {e : EngA} (h : e.short 1099511627776) : ∀ p ∈ e.disk, Fit p.ss := fun p hp s hs => h.disk p hp s hs
theorem EngA.reads.below {w w' : World} {e : EngA} (h : e.reads w) (hb : Below w.heap.size w w') : e.reads w' :=
 ⟨fun p hp => (h.disk p hp).below hb, h.pool.below hb, h.log.below hb, h.txs.below hb, h.holds.below hb⟩
theorem OwnS.readsAll {w : World} {lo hi : Nat} {ps : List PageA} (h : OwnS w lo hi (ps.flatMap (·.ss))) : ∀ p ∈ ps, ReadsS w p.ss := fun p hp s hs => h.reads s (List.mem_flatMap.2 ⟨p, hp, hs⟩)
theorem EngA.own.reads {w : World} {lo hi : Nat} {e : EngA} (h : e.own w lo hi) : e.reads w := ⟨OwnS.readsAll h.disk, OwnSts.reads h.pool, OwnRs.reads h.log, h.txs.reads, h.holds.reads⟩
theorem eng_parts {w : World} {B : Nat} {t : TypeId} {e : EngA} (h : e.shape) (b : Box w B e.cells t) :
  w.rangeAt B 0 (cellsPs e.disk) ∧ w.rangeAt B 136 e.poolA.cells ∧ w.rangeAt B 138 e.log.cells ∧ w.cell? ⟨B, 140, none⟩ = some (.slice e.aT e.txs.length e.cT) ∧ w.cell? ⟨B, 141, none⟩ = some (.slice e.aH e.holds.length e.cH) ∧ w.cell? ⟨B, 142, none⟩ = some (.int .i64 e.next) ∧ w.cell? ⟨B, 143, none⟩ = some (.bool e.down) := by
 have hl := EngA.disk_len h
 refine ⟨?_, ?_, ?_, EngA.cell_at h b 4 _ rfl, EngA.cell_at h b 5 _ rfl, EngA.cell_at h b 6 _ rfl, EngA.cell_at h b 7 _ rfl⟩
 ·exact Box.range [] (cellsPs e.disk) e.tail b
 ·have := Box.range (cellsPs e.disk) e.poolA.cells [.slice e.log.a e.log.recs.length e.log.c, .int .i64 e.log.sure, .slice e.aT e.txs.length e.cT, .slice e.aH e.holds.length e.cH, .int .i64 e.next, .bool e.down] b
  rwa [hl] at this
 ·have := Box.range (cellsPs e.disk ++ e.poolA.cells) e.log.cells [.slice e.aT e.txs.length e.cT, .slice e.aH e.holds.length e.cH, .int .i64 e.next, .bool e.down] (by rw [List.append_assoc]; exact b)
  rw [List.length_append, hl] at this
  exact this
theorem eqEngine_same (e f : EngA) (se : e.shape) (sf : f.shape) (he : f.v = e.v) (w : World) (re : e.reads w) (rf : f.reads w) (hl : e.short 1099511627776) :
  Calls Try.prog 21 #[.agg e.cells.toArray, .agg f.cells.toArray] w fun r w' => r = .returned (.bool true) ∧ Below w.heap.size w w' := by
 simp only [EngA.v, EngV.mk.injEq] at he
 obtain ⟨h1, h2, h3, h4, h5, h6, h7, h8⟩ := he
 have HD : Hid (f.disk.map pgv = e.disk.map pgv) := h1
 have HPV : Hid (f.poolA.v = e.poolA.v) := by rw [Hid, PoolA.v, PoolA.v]; simp only [EngA.poolA, h2, h3]
 have HLV : Hid (f.log.v = e.log.v) := h4
 obtain ⟨W, hW, b0, b1, hbW, hsW⟩ := boxes2 w e.cells f.cells 42 42
 have HE : Hid (∀ u, Below W.heap.size W u → _) := fun u hu => eng_parts se (b0.below hu b0.lt)
 have HF : Hid (∀ u, Below W.heap.size W u → _) := fun u hu => eng_parts sf (b1.below hu b1.lt)
 have HR : Hid (∀ u, Below W.heap.size W u → e.reads u ∧ f.reads u) := fun u hu => ⟨(re.below hbW).below hu, (rf.below hbW).below hu⟩
 have hie := disk8_info se.disk8
 have hif := disk8_info sf.disk8
 clear h1 h2 h3 h4 hsW b0 b1
 have N : Below W.heap.size W W := Below.refl _ _
 obtain ⟨p0, p1, p2, p3, p4, p5, p6⟩ := HE.out _ N
 obtain ⟨q0, q1, q2, q3, q4, q5, q6⟩ := HF.out _ N
 go_enter Try.func21, Try.ntmps21
 go_wp2_with (first | (guard_target = wpList _ _ _ (Oper.mk (some 6) _ _ _ _ _ :: _) _ _; refine wpList_load_mid rfl 32 (.tmp 5) rfl w.heap.size 0 rfl (cellsPs e.disk) _ (by rw [hW.out]; exact p0) Try.underlying32 rfl hie ?_) | (guard_target = wpList _ _ _ (Oper.mk (some 8) _ _ _ _ _ :: _) _ _; refine wpList_load_mid rfl 32 (.tmp 7) rfl (w.heap.size + 1) 0 rfl (cellsPs f.disk) _ (by rw [hW.out]; exact q0) Try.underlying32 rfl hif ?_) | fail)
 rw [hW.out]
 clear hW
 refine (eqPageA8_same e.disk f.disk se.disk8 sf.disk8 HD.out W (HR.out _ N).1.disk (HR.out _ N).2.disk hl.fit).mono ?_
 rintro r w1 ⟨rfl, hbw1⟩
 replace N := N.trans (hbw1.mono N.size)
 clear p0 p1 p2 p3 p4 p5 p6 q0 q1 q2 q3 q4 q5 q6 hbw1
 obtain ⟨p0, p1, p2, p3, p4, p5, p6⟩ := HE.out _ N
 obtain ⟨q0, q1, q2, q3, q4, q5, q6⟩ := HF.out _ N
 go_wp2_with (first | (guard_target = wpList _ _ _ (Oper.mk (some 12) _ _ _ _ _ :: _) _ _; refine wpList_load_mid rfl 35 (.tmp 11) rfl w.heap.size 136 rfl (e.poolA.cells) _ p1 Try.underlying35 rfl (pool_info _) ?_) | (guard_target = wpList _ _ _ (Oper.mk (some 14) _ _ _ _ _ :: _) _ _; refine wpList_load_mid rfl 35 (.tmp 13) rfl (w.heap.size + 1) 136 rfl (f.poolA.cells) _ q1 Try.underlying35 rfl (pool_info _) ?_) | fail)
 refine (eqPool_same e.poolA f.poolA HPV.out w1 (HR.out _ N).1.pool (HR.out _ N).2.pool hl.pool).mono ?_
 rintro r w2 ⟨rfl, hbw2⟩
 replace N := N.trans (hbw2.mono N.size)
 clear p0 p1 p2 p3 p4 p5 p6 q0 q1 q2 q3 q4 q5 q6 hbw2
 obtain ⟨p0, p1, p2, p3, p4, p5, p6⟩ := HE.out _ N
 obtain ⟨q0, q1, q2, q3, q4, q5, q6⟩ := HF.out _ N
 go_wp2_with (first | (guard_target = wpList _ _ _ (Oper.mk (some 18) _ _ _ _ _ :: _) _ _; refine wpList_load_mid rfl 38 (.tmp 17) rfl w.heap.size 138 rfl (e.log.cells) _ p2 Try.underlying38 rfl (log_info _) ?_) | (guard_target = wpList _ _ _ (Oper.mk (some 20) _ _ _ _ _ :: _) _ _; refine wpList_load_mid rfl 38 (.tmp 19) rfl (w.heap.size + 1) 138 rfl (f.log.cells) _ q2 Try.underlying38 rfl (log_info _) ?_) | fail)
 refine (eqLog_same e.log f.log HLV.out w2 (HR.out _ N).1.log (HR.out _ N).2.log hl.log).mono ?_
 rintro r w3 ⟨rfl, hbw3⟩
 replace N := N.trans (hbw3.mono N.size)
 clear p0 p1 p2 p3 p4 p5 p6 q0 q1 q2 q3 q4 q5 q6 hbw3
 obtain ⟨p0, p1, p2, p3, p4, p5, p6⟩ := HE.out _ N
 obtain ⟨q0, q1, q2, q3, q4, q5, q6⟩ := HF.out _ N
 rw [h5] at q3
 have C4 := eqLiveS_same e.aT f.aT e.cT f.cT e.txs w3 (HR.out _ N).1.txs (by have := (HR.out _ N).2.txs; rwa [h5] at this) hl.txs
 go_wp2_with fail
 refine (C4).mono ?_
 rintro r w4 ⟨rfl, hbw4⟩
 replace N := N.trans (hbw4.mono N.size)
 clear p0 p1 p2 p3 p4 p5 p6 q0 q1 q2 q3 q4 q5 q6 hbw4
 obtain ⟨p0, p1, p2, p3, p4, p5, p6⟩ := HE.out _ N
 obtain ⟨q0, q1, q2, q3, q4, q5, q6⟩ := HF.out _ N
 clear C4
 rw [h6] at q4
 have C5 := eqHoldS_same e.aH f.aH e.cH f.cH e.holds w4 (HR.out _ N).1.holds (by have := (HR.out _ N).2.holds; rwa [h6] at this) hl.holds
 go_wp2_with fail
 refine (C5).mono ?_
 rintro r w5 ⟨rfl, hbw5⟩
 replace N := N.trans (hbw5.mono N.size)
 clear p0 p1 p2 p3 p4 p5 p6 q0 q1 q2 q3 q4 q5 q6 hbw5
 obtain ⟨p0, p1, p2, p3, p4, p5, p6⟩ := HE.out _ N
 obtain ⟨q0, q1, q2, q3, q4, q5, q6⟩ := HF.out _ N
 clear C5
 rw [h7] at q5
 rw [h8] at q6
 have HEND : Hid (Below w.heap.size w w5) := hbW.trans (N.mono hbW.size)
 clear h5 h6 h7 h8
 go_wp2
 go_ret
 exact ⟨rfl, HEND.out⟩
def EngA.kP (e : EngA) (k : Int) : Int := k + countS (slots8 e.disk)
def EngA.kL (e : EngA) (k : Int) : Int := e.kP k + e.poolA.count
def EngA.kT (e : EngA) (k : Int) : Int := e.kL k + e.log.count
def EngA.kH (e : EngA) (k : Int) : Int := e.kT k + 3 * e.txs.length
def EngA.kE (e : EngA) (k : Int) : Int := e.kH k + 2 * e.holds.length
structure EngA.marked (w : World) (lo hi : Nat) (e : EngA) (k : Int) : Prop where
 disk : OwnS w lo hi (markSs (slots8 e.disk) k)
 pool : (e.poolA.mark (e.kP k)).own w lo hi
 log : (e.log.mark (e.kL k)).own w lo hi
 txs : OwnL w lo hi e.aT e.cT (marksL (e.kT k) e.txs.length)
 holds : OwnH w lo hi e.aH e.cH (marksH (e.kH k) e.holds.length)
theorem EngA.marked.touch {w w' : World} {lo hi : Nat} {e : EngA} {k : Int} {bl : List Nat} (h : e.marked w lo hi k) (ht : Touch bl w w') (hd : ∀ j ∈ e.blocks, j ∉ bl) : e.marked w' lo hi k := by
 simp only [EngA.blocks, List.mem_append] at hd
 refine ⟨h.disk.touch ht (fun j hj => hd j (.inl (by rw [markSs_blocks] at hj; exact hj))), h.pool.touch ht (fun j hj => hd j (.inr (.inl ?_))), h.log.touch ht (fun j hj => hd j (.inr (.inr (.inl ?_)))), h.txs.touch ht (fun j hj => hd j (.inr (.inr (.inr (.inl ?_))))), h.holds.touch ht (fun j hj => hd j (.inr (.inr (.inr (.inr ?_)))))⟩
 ·simpa [PoolA.blocks, PoolA.mark, blocksSts, markSts_len, markSts_blocks, EngA.poolA] using hj
 ·simpa [LogA.blocks, LogA.mark, blocksRs, markRs_len, markRs_blocks] using hj
 ·rw [marksL_len] at hj; exact Option.mem_toList.2 hj
 ·rw [marksH_len] at hj; exact Option.mem_toList.2 hj
theorem EngA.marked.below {w w' : World} {lo hi : Nat} {e : EngA} {k : Int} (h : e.marked w lo hi k) (hb : Below w.heap.size w w') : e.marked w' lo hi k :=
 ⟨h.disk.below hb, h.pool.below hb, h.log.below hb, h.txs.below hb, h.holds.below hb⟩
theorem markEngine_touch (e : EngA) (se : e.shape) (lo hi : Nat) (k0 : Int) (w : World) (ho : e.own w lo hi) (hl : e.short 1099511627776) (h0 : 0 ≤ k0) (hk : e.kP k0 ≤ 10995116277760 ∧ e.kE k0 ≤ 1152921504606846976) (hhi : hi ≤ w.heap.size) :
  Calls Try.prog 26 #[.agg e.cells.toArray, .int .i64 k0] w fun r w' => r = .returned (.int .i64 (e.kE k0)) ∧ e.marked w' lo hi k0 ∧ Touch e.blocks w w' := by
 have hbl := ho.blocks_lt
 have HAP := ho.apart
 obtain ⟨W, hW, b0, hbW, hsW⟩ := boxes1 w e.cells 42
 have hs0 : w.heap.size < W.heap.size := by omega
 have hwB : w.heap.size ∉ e.blocks := fun h => by have := (hbl _ h).2; omega
 have HE : Hid (∀ u, Touch e.blocks W u → _) := fun u hu => eng_parts se (b0.touch hu hwB)
 have hie := disk8_info se.disk8
 have hb1 : 0 ≤ e.kP k0 ∧ e.kP k0 ≤ 10995116277760 ∧ 0 ≤ e.kL k0 ∧ e.kL k0 ≤ 1152921504606846976 ∧ 0 ≤ e.kT k0 ∧ e.kT k0 ≤ 1152921504606846976 ∧ 0 ≤ e.kH k0 ∧ e.kH k0 ≤ 1152921504606846976 := by unfold EngA.kE EngA.kH EngA.kT EngA.kL EngA.kP at *; omega
 simp only [EngA.blocks, List.nodup_append, List.mem_append] at HAP
 obtain ⟨_, ⟨_, ⟨_, ⟨_, _, a45⟩, a3⟩, a2⟩, a1⟩ := HAP
 have od := ho.disk.below hbW
 have op : e.poolA.own W lo hi := OwnSts.below ho.pool hbW
 have ol : e.log.own W lo hi := OwnRs.below ho.log hbW
 have ot := ho.txs.below hbW
 have oh := ho.holds.below hbW
 have N : Touch e.blocks W W := Touch.refl _ _
 obtain ⟨p0, p1, p2, p3, p4, _, _⟩ := HE.out _ N
 have C1 := markPageA8_touch e.disk se.disk8 lo hi k0 W od hl.fit h0 (by have := hb1.2.1; unfold EngA.kP at this; exact this) (by omega)
 go_enter Try.func26, Try.ntmps26
 go_wp2_with (first | (guard_target = wpList _ _ _ (Oper.mk (some 6) _ _ _ _ _ :: _) _ _; refine wpList_load_mid rfl 32 (.tmp 5) rfl w.heap.size 0 rfl (cellsPs e.disk) _ (by rw [hW.out]; exact p0) Try.underlying32 rfl hie ?_) | fail)
 rw [hW.out]
 clear hW hsW
 refine C1.mono ?_
 clear C1 p0 p1 p2 p3 p4 od
 rintro r w1 ⟨rfl, od, t1⟩
 have T1 : Touch e.blocks W w1 := t1.mono (fun k hk => List.mem_append.2 (.inl hk))
 replace op : e.poolA.own w1 lo hi := op.touch t1 (fun k hk hk' => a1 k hk' k (.inl hk) rfl)
 replace ol : e.log.own w1 lo hi := ol.touch t1 (fun k hk hk' => a1 k hk' k (.inr (.inl hk)) rfl)
 replace ot := ot.touch t1 (fun k hk hk' => a1 k hk' k (.inr (.inr (.inl (Option.mem_toList.2 hk)))) rfl)
 replace oh := oh.touch t1 (fun k hk hk' => a1 k hk' k (.inr (.inr (.inr (Option.mem_toList.2 hk)))) rfl)
 obtain ⟨p0, p1, p2, p3, p4, _, _⟩ := HE.out _ T1
 have C2 := markPool_touch e.poolA lo hi (e.kP k0) w1 op hl.pool hb1.1 (by have := hb1.2.2.2.1; unfold EngA.kL at this; omega)
 go_wp2_with (first | (guard_target = wpList _ _ _ (Oper.mk (some 10) _ _ _ _ _ :: _) _ _; refine wpList_load_mid rfl 35 (.tmp 9) rfl w.heap.size 136 rfl (e.poolA.cells) _ p1 Try.underlying35 rfl (pool_info _) ?_) | fail)
 refine C2.mono ?_
 clear C2 p0 p1 p2 p3 p4 op t1
 rintro r w2 ⟨rfl, op, t2⟩
 have hpb : e.poolA.blocks = blocksSts e.aS e.cS e.seats := rfl
 have T2 : Touch e.blocks W w2 := T1.trans (t2.mono (fun k hk => List.mem_append.2 (.inr (List.mem_append.2 (.inl hk)))))
 replace od := od.touch t2 (fun k hk hk' => a1 k (by rw [markSs_blocks] at hk; exact hk) k (.inl hk') rfl)
 replace ol : e.log.own w2 lo hi := ol.touch t2 (fun k hk hk' => a2 k hk' k (.inl hk) rfl)
 replace ot := ot.touch t2 (fun k hk hk' => a2 k hk' k (.inr (.inl (Option.mem_toList.2 hk))) rfl)
 replace oh := oh.touch t2 (fun k hk hk' => a2 k hk' k (.inr (.inr (Option.mem_toList.2 hk))) rfl)
 obtain ⟨p0, p1, p2, p3, p4, _, _⟩ := HE.out _ T2
 have C3 := markLog_touch e.log lo hi (e.kL k0) w2 ol hl.log hb1.2.2.1 (by have := hb1.2.2.2.2.2.1; unfold EngA.kT at this; omega)
 go_wp2_with (first | (guard_target = wpList _ _ _ (Oper.mk (some 14) _ _ _ _ _ :: _) _ _; refine wpList_load_mid rfl 38 (.tmp 13) rfl w.heap.size 138 rfl (e.log.cells) _ p2 Try.underlying38 rfl (log_info _) ?_) | fail)
 refine C3.mono ?_
 clear C3 p0 p1 p2 p3 p4 ol t2
 rintro r w3 ⟨rfl, ol, t3⟩
 have T3 : Touch e.blocks W w3 := T2.trans (t3.mono (fun k hk => List.mem_append.2 (.inr (List.mem_append.2 (.inr (List.mem_append.2 (.inl hk)))))))
 replace od := od.touch t3 (fun k hk hk' => a1 k (by rw [markSs_blocks] at hk; exact hk) k (.inr (.inl hk')) rfl)
 replace op : (e.poolA.mark (e.kP k0)).own w3 lo hi := op.touch t3 (fun k hk hk' => a2 k (by simpa [PoolA.blocks, PoolA.mark, blocksSts, markSts_len, markSts_blocks, EngA.poolA] using hk) k (.inl hk') rfl)
 replace ot := ot.touch t3 (fun k hk hk' => a3 k hk' k (.inl (Option.mem_toList.2 hk)) rfl)
 replace oh := oh.touch t3 (fun k hk hk' => a3 k hk' k (.inr (Option.mem_toList.2 hk)) rfl)
 obtain ⟨p0, p1, p2, p3, p4, _, _⟩ := HE.out _ T3
 have C4 := markLiveS_own lo hi e.aT e.cT (e.kT k0) e.txs w3 ot hb1.2.2.2.2.1 (by have := hb1.2.2.2.2.2.2.2; unfold EngA.kH at this; omega)
 have E3 : Hid (e.kL k0 + (e.log.count : Int) = e.kT k0) := rfl
 rw [E3.out]
 go_wp2_with fail
 refine C4.mono ?_
 clear C4 p0 p1 p2 p3 p4 ot t3 E3
 rintro r w4 ⟨rfl, ot, t4⟩
 have T4 : Touch e.blocks W w4 := T3.trans (t4.mono (fun k hk => List.mem_append.2 (.inr (List.mem_append.2 (.inr (List.mem_append.2 (.inr (List.mem_append.2 (.inl hk)))))))))
 replace od := od.touch t4 (fun k hk hk' => a1 k (by rw [markSs_blocks] at hk; exact hk) k (.inr (.inr (.inl hk'))) rfl)
 replace op : (e.poolA.mark (e.kP k0)).own w4 lo hi := op.touch t4 (fun k hk hk' => a2 k (by simpa [PoolA.blocks, PoolA.mark, blocksSts, markSts_len, markSts_blocks, EngA.poolA] using hk) k (.inr (.inl hk')) rfl)
 replace ol : (e.log.mark (e.kL k0)).own w4 lo hi := ol.touch t4 (fun k hk hk' => a3 k (by simpa [LogA.blocks, LogA.mark, blocksRs, markRs_len, markRs_blocks] using hk) k (.inl hk') rfl)
 replace oh := oh.touch t4 (fun k hk hk' => a45 k hk' k (Option.mem_toList.2 hk) rfl)
 obtain ⟨p0, p1, p2, p3, p4, _, _⟩ := HE.out _ T4
 have C5 := markHoldS_own lo hi e.aH e.cH (e.kH k0) e.holds w4 oh hb1.2.2.2.2.2.2.1 (by unfold EngA.kE at hk; omega)
 have E4 : Hid (e.kT k0 + 3 * (e.txs.length : Int) = e.kH k0) := rfl
 rw [E4.out]
 go_wp2_with fail
 refine C5.mono ?_
 clear C5 p0 p1 p2 p3 p4 oh E4
 rintro r w5 ⟨rfl, oh, t5⟩
 have T5 : Touch e.blocks W w5 := T4.trans (t5.mono (fun k hk => List.mem_append.2 (.inr (List.mem_append.2 (.inr (List.mem_append.2 (.inr (List.mem_append.2 (.inr hk)))))))))
 replace od := od.touch t5 (fun k hk hk' => a1 k (by rw [markSs_blocks] at hk; exact hk) k (.inr (.inr (.inr hk'))) rfl)
 replace op : (e.poolA.mark (e.kP k0)).own w5 lo hi := op.touch t5 (fun k hk hk' => a2 k (by simpa [PoolA.blocks, PoolA.mark, blocksSts, markSts_len, markSts_blocks, EngA.poolA] using hk) k (.inr (.inr hk')) rfl)
 replace ol : (e.log.mark (e.kL k0)).own w5 lo hi := ol.touch t5 (fun k hk hk' => a3 k (by simpa [LogA.blocks, LogA.mark, blocksRs, markRs_len, markRs_blocks] using hk) k (.inr hk') rfl)
 replace ot := ot.touch t5 (fun k hk hk' => a45 k (by rw [marksL_len] at hk; exact Option.mem_toList.2 hk) k hk' rfl)
 have HEND : Hid (e.marked w5 lo hi k0 ∧ Touch e.blocks w w5) := ⟨⟨od, op, ol, ot, oh⟩, (Touch.of_below hbW).trans T5⟩
 go_wp2
 go_ret
 exact ⟨rfl, HEND.out.1, HEND.out.2⟩
theorem heldEngine_any (e : EngA) (se : e.shape) (lo hi : Nat) (k0 : Int) (w : World) (ho : e.marked w lo hi k0) (hl : e.short 1099511627776) (h0 : 0 ≤ k0) (hk : e.kP k0 ≤ 10995116277760 ∧ e.kE k0 ≤ 1152921504606846976) :
  Calls Try.prog 29 #[.agg e.cells.toArray, .int .i64 k0] w fun r w' => r = .returned (.int .i64 (e.kE k0)) ∧ Below w.heap.size w w' := by
 obtain ⟨W, hW, b0, hbW, hsW⟩ := boxes1 w e.cells 42
 have HE : Hid (∀ u, Below W.heap.size W u → _) := fun u hu => eng_parts se (b0.below hu b0.lt)
 have hie := disk8_info se.disk8
 have hb1 : 0 ≤ e.kP k0 ∧ e.kP k0 ≤ 10995116277760 ∧ 0 ≤ e.kL k0 ∧ e.kL k0 ≤ 1152921504606846976 ∧ 0 ≤ e.kT k0 ∧ e.kT k0 ≤ 1152921504606846976 ∧ 0 ≤ e.kH k0 ∧ e.kH k0 ≤ 1152921504606846976 ∧ 0 ≤ e.kE k0 := by unfold EngA.kE EngA.kH EngA.kT EngA.kL EngA.kP at *; omega
 have HM : Hid (∀ u, Below W.heap.size W u → e.marked u lo hi k0) := fun u hu => (ho.below hbW).below hu
 have N : Below W.heap.size W W := Below.refl _ _
 obtain ⟨p0, p1, p2, p3, p4, _, _⟩ := HE.out _ N
 have C1 := heldPageA8_any e.disk se.disk8 lo hi k0 W (HM.out _ N).disk hl.fit h0 (by have := hb1.2.1; unfold EngA.kP at this; exact this)
 go_enter Try.func29, Try.ntmps29
 go_wp2_with (first | (guard_target = wpList _ _ _ (Oper.mk (some 6) _ _ _ _ _ :: _) _ _; refine wpList_load_mid rfl 32 (.tmp 5) rfl w.heap.size 0 rfl (cellsPs e.disk) _ (by rw [hW.out]; exact p0) Try.underlying32 rfl hie ?_) | fail)
 rw [hW.out]
 clear hW hsW
 refine C1.mono ?_
 clear C1 p0 p1 p2 p3 p4
 rintro r w1 ⟨rfl, hb⟩
 replace N := N.trans (hb.mono N.size)
 obtain ⟨p0, p1, p2, p3, p4, _, _⟩ := HE.out _ N
 have E1 : Hid (k0 + (countS (slots8 e.disk) : Int) = e.kP k0) := rfl
 rw [E1.out]
 have n1 : ¬ e.kP k0 < 0 := by omega
 have C2 := heldPool_any e.poolA lo hi (e.kP k0) w1 (HM.out _ N).pool hl.pool.len hb1.1 (by have := hb1.2.2.2.1; unfold EngA.kL at this; omega)
 clear hb E1
 go_wp2_with (first | (guard_target = wpList _ _ _ (Oper.mk (some 12) _ _ _ _ _ :: _) _ _; refine wpList_load_mid rfl 35 (.tmp 11) rfl w.heap.size 136 rfl (e.poolA.cells) _ p1 Try.underlying35 rfl (pool_info _) ?_) | fail)
 refine C2.mono ?_
 clear C2 p0 p1 p2 p3 p4
 rintro r w2 ⟨rfl, hb⟩
 replace N := N.trans (hb.mono N.size)
 obtain ⟨p0, p1, p2, p3, p4, _, _⟩ := HE.out _ N
 have E1 : Hid (e.kP k0 + (e.poolA.count : Int) = e.kL k0) := rfl
 rw [E1.out]
 have n2 : ¬ e.kL k0 < 0 := by omega
 have C3 := heldLog_any e.log lo hi (e.kL k0) w2 (HM.out _ N).log hl.log.len hb1.2.2.1 (by have := hb1.2.2.2.2.2.1; unfold EngA.kT at this; omega)
 clear hb E1
 go_wp2_with (first | (guard_target = wpList _ _ _ (Oper.mk (some 18) _ _ _ _ _ :: _) _ _; refine wpList_load_mid rfl 38 (.tmp 17) rfl w.heap.size 138 rfl (e.log.cells) _ p2 Try.underlying38 rfl (log_info _) ?_) | fail)
 refine C3.mono ?_
 clear C3 p0 p1 p2 p3 p4
 rintro r w3 ⟨rfl, hb⟩
 replace N := N.trans (hb.mono N.size)
 obtain ⟨p0, p1, p2, p3, p4, _, _⟩ := HE.out _ N
 have E1 : Hid (e.kL k0 + (e.log.count : Int) = e.kT k0) := rfl
 rw [E1.out]
 have n3 : ¬ e.kT k0 < 0 := by omega
 have C4 := heldLiveS_any e.aT e.cT (e.kT k0) e.txs.length w3 (HM.out _ N).txs.reads hb1.2.2.2.2.1 (by have := hb1.2.2.2.2.2.2.2.1; unfold EngA.kH at this; omega)
 clear hb E1
 go_wp2_with fail
 refine C4.mono ?_
 clear C4
 rintro r w4 ⟨rfl, rfl⟩
 have E1 : Hid (e.kT k0 + 3 * (e.txs.length : Int) = e.kH k0) := rfl
 rw [E1.out]
 have n4 : ¬ e.kH k0 < 0 := by omega
 have C5 := heldHoldS_any e.aH e.cH (e.kH k0) e.holds.length w4 (HM.out _ N).holds.reads hb1.2.2.2.2.2.2.1 (by unfold EngA.kE at hk; omega)
 clear E1
 go_wp2_with fail
 refine C5.mono ?_
 clear C5
 rintro r w5 ⟨rfl, rfl⟩
 have E1 : Hid (e.kH k0 + 2 * (e.holds.length : Int) = e.kE k0) := rfl
 rw [E1.out]
 have n5 : ¬ e.kE k0 < 0 := by omega
 have HEND : Hid (Below w.heap.size w w5) := hbW.trans (N.mono hbW.size)
 go_wp2
 go_ret
 exact ⟨rfl, HEND.out⟩
end Go.Proofs.Ytgnkplbefclpgaa
namespace Go.Proofs.Ytgnkplbefclpgaa
open Go.RowKit
theorem eqLocks_same (G V : List GrantV) (a1 a2 a3 a4 : Option Addr) (c1 c2 c3 c4 : Nat) (w : World) (h1 : ReadsG w a1 G) (h2 : ReadsG w a2 V) (h3 : ReadsG w a3 G) (h4 : ReadsG w a4 V) (hlG : G.length ≤ 1099511627776) (hlV : V.length ≤ 1099511627776) :
  Calls Try.prog 22 #[.agg #[.slice a1 G.length c1, .slice a2 V.length c2], .agg #[.slice a3 G.length c3, .slice a4 V.length c4]] w fun e w' => e = .returned (.bool true) ∧ Below w.heap.size w w' := by
 obtain ⟨W, hW, b0, b1, hbW, hsW⟩ := boxes2 w [.slice a1 G.length c1, .slice a2 V.length c2] [.slice a3 G.length c3, .slice a4 V.length c4] 45 45
 go_enter Try.func22, Try.ntmps22
 go_wp2_with fail
 rw [hW.out]
 refine (eqGrantS_same a1 a3 c1 c3 G W (h1.below hbW) (h3.below hbW) hlG).mono ?_
 rintro e w1 ⟨rfl, hb1⟩
 have x0 := (b0.below hb1 b0.lt).cell 1 _ rfl
 have x1 := (b1.below hb1 b1.lt).cell 1 _ rfl
 have hB : Below w.heap.size w w1 := hbW.trans (hb1.mono hbW.size)
 go_wp2_with fail
 refine (eqGrantS_same a2 a4 c2 c4 V w1 (h2.below hB) (h4.below hB) hlV).mono ?_
 rintro e w2 ⟨rfl, hb2⟩
 go_wp2
 go_ret
 exact ⟨rfl, hB.trans (hb2.mono hB.size)⟩
section
open Go.ChangeShapes Go.WideShapes Go.ChangeAt
variable {H : Type} {enc : TypeId × Value → H} {w : World} {base : Nat} {spare : Nat → Bool} {held : Bool}
end
end Go.Proofs.Ytgnkplbefclpgaa
namespace Go.Proofs.Ytgnkplbefclpgaa
open Go.RowKit
structure Bare (e : EngA) : Prop where
 shape : e.shape
 short : e.short 1099511627776
 blocks : e.blocks = []
 own : ∀ w : World, e.own w 0 w.heap.size
 kE : ∀ k, e.kE k = k
 kP : ∀ k, e.kP k = k
theorem zeroE_pages : ∀ p ∈ zeroE.disk, p = zeroP := fun p hp => by
 simp only [zeroE, List.mem_cons, List.not_mem_nil, or_false] at hp
 rcases hp with h | h | h | h | h | h | h | h <;> exact h
theorem newE_shortS : newE.short 1099511627776 := by
 refine ⟨fun p hp x hx => ?_, ⟨Nat.zero_le _, fun r hr => by cases hr⟩, ⟨Nat.zero_le _, fun r hr => by cases hr⟩, Nat.zero_le _, Nat.zero_le _⟩
 have hp' : p ∈ zeroE.disk := hp
 rw [zeroE_pages p hp'] at hx
 have h2 : x = zeroS := by simpa [zeroP] using hx
 rw [h2]
 exact ⟨Nat.zero_le _, Nat.zero_le _⟩
theorem newE_bare : Bare newE := ⟨newE_shape, newE_shortS, newE_blocks, newE_own, fun k => by
  have h : newE.kE k = k + ((countS (slots8 newE.disk) : Nat) : Int) + newE.poolA.count + newE.log.count + 3 * newE.txs.length + 2 * newE.holds.length := rfl
  have h1 : countS (slots8 newE.disk) = 0 := by kernel_rfl
  have h2 : newE.poolA.count = 0 := by kernel_rfl
  have h3 : newE.log.count = 0 := by kernel_rfl
  have h4 : newE.txs.length = 0 := by kernel_rfl
  have h5 : newE.holds.length = 0 := by kernel_rfl
  rw [h, h1, h2, h3, h4, h5]; omega, fun k => by
  have h : newE.kP k = k + ((countS (slots8 newE.disk) : Nat) : Int) := rfl
  have h1 : countS (slots8 newE.disk) = 0 := by kernel_rfl
  rw [h, h1]; omega⟩
theorem zeroE_own (w : World) : zeroE.own w 0 w.heap.size := by
 refine ⟨⟨fun s hs => ?_, List.nodup_nil⟩, ownSts_nil _ _ _ (Nat.le_refl _), ownRs_nil _ _ _ (Nat.le_refl _), ownL_nil _ _ _ (Nat.le_refl _), ownH_nil _ _ _ (Nat.le_refl _), List.nodup_nil⟩
 obtain ⟨p, hp, hs⟩ := List.mem_flatMap.1 hs
 rw [zeroE_pages p hp] at hs
 have h2 : s = zeroS := by simpa [zeroP] using hs
 rw [h2]
 exact zero_own _ _ _ (Nat.le_refl _)
theorem zeroE_bare : Bare zeroE := ⟨zeroE_shape, by
  refine ⟨fun p hp x hx => ?_, ⟨Nat.zero_le _, fun r hr => by cases hr⟩, ⟨Nat.zero_le _, fun r hr => by cases hr⟩, Nat.zero_le _, Nat.zero_le _⟩
  rw [zeroE_pages p hp] at hx
  have h2 : x = zeroS := by simpa [zeroP] using hx
  rw [h2]
  exact ⟨Nat.zero_le _, Nat.zero_le _⟩, rfl, zeroE_own, fun k => by
  have h : zeroE.kE k = k + ((countS (slots8 zeroE.disk) : Nat) : Int) + zeroE.poolA.count + zeroE.log.count + 3 * zeroE.txs.length + 2 * zeroE.holds.length := rfl
  have h1 : countS (slots8 zeroE.disk) = 0 := by kernel_rfl
  have h2 : zeroE.poolA.count = 0 := by kernel_rfl
  have h3 : zeroE.log.count = 0 := by kernel_rfl
  have h4 : zeroE.txs.length = 0 := by kernel_rfl
  have h5 : zeroE.holds.length = 0 := by kernel_rfl
  rw [h, h1, h2, h3, h4, h5]; omega, fun k => by
  have h : zeroE.kP k = k + ((countS (slots8 zeroE.disk) : Nat) : Int) := rfl
  have h1 : countS (slots8 zeroE.disk) = 0 := by kernel_rfl
  rw [h, h1]; omega⟩
structure SchA where
 e : EngA
 js : List JobA
 aJ : Option Addr
 cJ : Nat
 n : Nat
 a3 : Option Addr
 c3 : Nat
 a4 : Option Addr
 c4 : Nat
 a5 : Option Addr
 c5 : Nat
 a6 : Option Addr
 c6 : Nat
def SchA.tail (s : SchA) : List Value := [.slice none 0 0, .slice none 0 0, .slice s.aJ s.js.length s.cJ, .slice s.a3 s.n s.c3, .slice s.a4 s.n s.c4, .slice s.a5 s.n s.c5, .slice s.a6 s.n s.c6, .slice none 0 0]
def SchA.cells (s : SchA) : List Value := s.e.cells ++ s.tail
def zerosI (n : Nat) : List Int := List.replicate n 0
theorem zerosI_len (n : Nat) : (zerosI n).length = n := by simp [zerosI]
structure SchA.reads (w : World) (s : SchA) : Prop where
 eng : s.e.reads w
 js : ReadsJ w s.aJ s.js
 r3 : ReadsI w s.a3 (zerosI s.n)
 r4 : ReadsI w s.a4 (zerosI s.n)
 r5 : ReadsI w s.a5 (zerosI s.n)
 r6 : ReadsI w s.a6 (zerosI s.n)
theorem SchA.reads.below {w w' : World} {s : SchA} (h : s.reads w) (hb : Below w.heap.size w w') : s.reads w' := ⟨h.eng.below hb, h.js.below hb, h.r3.below hb, h.r4.below hb, h.r5.below hb, h.r6.below hb⟩
def rowB (a : Option Addr) (n c : Nat) : List Nat := (Value.slice a n c).ownBlock.toList
def SchA.rows (s : SchA) : List Nat := rowB s.a3 s.n s.c3 ++ (rowB s.a4 s.n s.c4 ++ (rowB s.a5 s.n s.c5 ++ rowB s.a6 s.n s.c6))
def SchA.blocks (s : SchA) : List Nat := blocksJ s.aJ s.cJ s.js ++ s.rows
structure SchA.holds (w : World) (lo hi : Nat) (s : SchA) (J : List JobA) (x3 x4 x5 x6 : List Int) : Prop where
 js : OwnJ w lo hi s.aJ s.cJ J
 r3 : OwnI w lo hi s.a3 s.c3 x3
 r4 : OwnI w lo hi s.a4 s.c4 x4
 r5 : OwnI w lo hi s.a5 s.c5 x5
 r6 : OwnI w lo hi s.a6 s.c6 x6
structure SchA.own (w : World) (lo hi : Nat) (s : SchA) : Prop where
 lists : s.holds w lo hi s.js (zerosI s.n) (zerosI s.n) (zerosI s.n) (zerosI s.n)
 apart : s.blocks.Nodup
theorem SchA.holds.below {w w' : World} {lo hi : Nat} {s : SchA} {J : List JobA} {x3 x4 x5 x6 : List Int} (h : s.holds w lo hi J x3 x4 x5 x6) (hb : Below w.heap.size w w') : s.holds w' lo hi J x3 x4 x5 x6 := ⟨h.js.below hb, h.r3.below hb, h.r4.below hb, h.r5.below hb, h.r6.below hb⟩
theorem SchA.holds.widen {w : World} {lo hi lo' hi' : Nat} {s : SchA} {J : List JobA} {x3 x4 x5 x6 : List Int} (h : s.holds w lo hi J x3 x4 x5 x6) (h1 : lo' ≤ lo) (h2 : hi ≤ hi') (h3 : hi' ≤ w.heap.size) : s.holds w lo' hi' J x3 x4 x5 x6 := ⟨h.js.widen h1 h2 h3, h.r3.widen h1 h2 h3, h.r4.widen h1 h2 h3, h.r5.widen h1 h2 h3, h.r6.widen h1 h2 h3⟩
theorem SchA.own.below {w w' : World} {lo hi : Nat} {s : SchA} (h : s.own w lo hi) (hb : Below w.heap.size w w') : s.own w' lo hi := ⟨h.lists.below hb, h.apart⟩
theorem SchA.own.reads {w : World} {lo hi : Nat} {s : SchA} (h : s.own w lo hi) (hE : Bare s.e) : s.reads w := ⟨(hE.own w).reads, h.lists.js.reads, h.lists.r3.reads, h.lists.r4.reads, h.lists.r5.reads, h.lists.r6.reads⟩
theorem rowB_lt {w : World} {lo hi : Nat} {a : Option Addr} {n c : Nat} {xs : List Int} (h : OwnI w lo hi a c xs) (hn : xs.length = n) : ∀ k ∈ rowB a n c, lo ≤ k ∧ k < hi := fun k hk => h.lt k (by rw [hn]; exact Option.mem_toList.1 hk)
theorem SchA.own.blocks_lt {w : World} {lo hi : Nat} {s : SchA} (h : s.own w lo hi) : ∀ k ∈ s.blocks, lo ≤ k ∧ k < hi := by
 intro k hk
 simp only [SchA.blocks, SchA.rows, List.mem_append] at hk
 rcases hk with hk | hk | hk | hk | hk
 ·exact h.lists.js.blocks_lt k hk
 ·exact rowB_lt h.lists.r3 (zerosI_len _) k hk
 ·exact rowB_lt h.lists.r4 (zerosI_len _) k hk
 ·exact rowB_lt h.lists.r5 (zerosI_len _) k hk
 ·exact rowB_lt h.lists.r6 (zerosI_len _) k hk
theorem sch_len {s : SchA} (h : s.e.shape) : s.cells.length = 152 := by rw [SchA.cells, List.length_append, EngA.cells_len h]; rfl
theorem Try.infoSch : (Try.prog.info? 48).map (·.size) = some 152 := by kernel_rfl
theorem sch_info {s : SchA} (h : s.e.shape) : (Try.prog.info? 48).map (·.size) = some s.cells.length := by rw [sch_len h]; exact Try.infoSch
theorem oneSch (s : SchA) : ∀ v ∈ s.cells, v.oneCell' = true := by
 intro v hv
 rcases List.mem_append.1 hv with hv | hv
 ·exact oneE s.e v hv
 ·simp only [SchA.tail, List.mem_cons, List.not_mem_nil, or_false] at hv
  rcases hv with rfl | rfl | rfl | rfl | rfl | rfl | rfl | rfl <;> rfl
theorem sch_parts {w : World} {B : Nat} {t : TypeId} {s : SchA} (h : s.e.shape) (b : Box w B s.cells t) :
  w.rangeAt B 0 s.e.cells ∧ w.rangeAt B 144 [.slice none 0 0, .slice none 0 0] ∧ w.cell? ⟨B, 146, none⟩ = some (.slice s.aJ s.js.length s.cJ) ∧ w.cell? ⟨B, 147, none⟩ = some (.slice s.a3 s.n s.c3) ∧ w.cell? ⟨B, 148, none⟩ = some (.slice s.a4 s.n s.c4) ∧ w.cell? ⟨B, 149, none⟩ = some (.slice s.a5 s.n s.c5) ∧ w.cell? ⟨B, 150, none⟩ = some (.slice s.a6 s.n s.c6) ∧ w.cell? ⟨B, 151, none⟩ = some (.slice none 0 0) := by
 have hl := EngA.cells_len h
 have at_ : ∀ i v, s.tail[i]? = some v → w.cell? ⟨B, 144 + i, none⟩ = some v := fun i v hi => b.cell (144 + i) v (by
  rw [SchA.cells, List.getElem?_append_right (by omega), hl]
  simpa using hi)
 refine ⟨Box.range [] s.e.cells s.tail b, ?_, at_ 2 _ rfl, at_ 3 _ rfl, at_ 4 _ rfl, at_ 5 _ rfl, at_ 6 _ rfl, at_ 7 _ rfl⟩
 have := Box.range s.e.cells [.slice none 0 0, .slice none 0 0] (s.tail.drop 2) b
 rwa [hl] at this
theorem sch_out {w : World} {C : Nat} {q old : SchA} (hq : q.e.shape) (ho : old.e.shape) (bC : Box w C old.cells 48) :
  ∃ WF, Hid (w.setCells C 0 q.cells.toArray.toList = WF) ∧ Within C (C + 1) w WF ∧ WF.heap.size = w.heap.size ∧ Hid (w.there C 0 q.cells.toArray.size) ∧ Box WF C q.cells 48 := by
 obtain ⟨WF, hWF, bF, hwF, hsF⟩ := range_fill [] old.cells q.cells [] (by simpa using bC) (by rw [sch_len hq, sch_len ho])
 refine ⟨WF, hWF, hwF, hsF, bC.there 0 _ (by rw [List.size_toArray, sch_len hq, sch_len ho]; omega), by simpa using bF⟩
theorem sch_load {w : World} {C : Nat} {q : SchA} (hq : q.e.shape) (b : Box w C q.cells 48) : (loadVar 48 ⟨C, 0, none⟩).run Try.prog w = .ok (.agg q.cells.toArray) w :=
 run_loadVar_mid (P := Try.prog) w C 0 48 q.cells _ (Box.range [] q.cells [] (by simpa using b)) Try.underlying48 rfl (sch_info hq)
def zeroSch : SchA := ⟨zeroE, [], none, 0, 0, none, 0, none, 0, none, 0, none, 0⟩
theorem Try.zeroSched : (Try.prog.info? 48).map (·.zero) = some (some (.agg zeroSch.cells.toArray)) := by kernel_rfl
theorem touch_nil {w w' : World} (h : Touch [] w w') : Below w.heap.size w w' := (h.within (lo := w.heap.size) (hi := w.heap.size) (fun k hk => by cases hk)).below (Nat.le_refl _) (Nat.le_refl _)
theorem infoLk : (Try.prog.info? 45).map (·.size) = some 2 := by kernel_rfl
theorem markLocks_nil (k : Int) (w : World) (h0 : 0 ≤ k) (hk : k ≤ 1000000) :
  Calls Try.prog 27 #[.agg #[.slice none 0 0, .slice none 0 0], .int .i64 k] w fun e w' => e = .returned (.int .i64 k) ∧ Below w.heap.size w w' := by
 obtain ⟨W, hW, b0, hbW, hsW⟩ := boxes1 w [.slice none 0 0, .slice none 0 0] 45
 have CM : Hid (∀ u, Calls Try.prog 48 #[.slice none 0 0, .int .i64 k] u fun e u' => e = .returned (.int .i64 k) ∧ Below u.heap.size u u') := fun u => by
  refine (markGrantS_own 0 u.heap.size none 0 k [] u (ownG_nil _ _ _ (Nat.le_refl _)) h0 (by simp only [List.length_nil]; omega)).mono ?_
  rintro e u' ⟨rfl, _, t⟩
  exact ⟨by simp, touch_nil t⟩
 go_enter Try.func27, Try.ntmps27
 go_wp2_with fail
 rw [hW.out]
 refine (CM.out _).mono ?_
 rintro e w1 ⟨rfl, hb1⟩
 have x0 := (b0.below hb1 b0.lt).cell 1 _ rfl
 have hB : Below w.heap.size w w1 := hbW.trans (hb1.mono hbW.size)
 go_wp2_with fail
 refine (CM.out _).mono ?_
 rintro e w2 ⟨rfl, hb2⟩
 go_wp2
 go_ret
 exact ⟨rfl, hB.trans (hb2.mono hB.size)⟩
theorem heldLocks_nil (k : Int) (w : World) (h0 : 0 ≤ k) (hk : k ≤ 1000000) :
  Calls Try.prog 30 #[.agg #[.slice none 0 0, .slice none 0 0], .int .i64 k] w fun e w' => e = .returned (.int .i64 k) ∧ Below w.heap.size w w' := by
 obtain ⟨W, hW, b0, hbW, hsW⟩ := boxes1 w [.slice none 0 0, .slice none 0 0] 45
 have CM : Hid (∀ u, Calls Try.prog 54 #[.slice none 0 0, .int .i64 k] u fun e u' => e = .returned (.int .i64 k) ∧ u' = u) := fun u => by
  refine (heldGrantS_any none 0 k 0 u (by intro h; exact absurd (by simp [marksG]) h) h0 (by omega)).mono ?_
  rintro e u' ⟨rfl, h⟩
  exact ⟨by simp, h⟩
 have hn : ¬ k < 0 := by omega
 have x1 := b0.cell 1 _ rfl
 go_enter Try.func30, Try.ntmps30
 go_wp2_with fail
 rw [hW.out]
 refine (CM.out _).mono ?_
 rintro e w1 ⟨rfl, rfl⟩
 go_wp2_with fail
 refine (CM.out _).mono ?_
 rintro e w2 ⟨rfl, rfl⟩
 go_wp2
 go_ret
 exact ⟨rfl, hbW⟩
theorem eqSched_same (s t : SchA) (he : t.e = s.e) (hE : Bare s.e) (hn : t.n = s.n) (hj : Hid (opsJ t.js = opsJ s.js)) (w : World) (rs : s.reads w) (rt : t.reads w) (hs : JobsShort s.js 1099511627776) (hl : s.n ≤ 1000) :
  Calls Try.prog 8 #[.agg s.cells.toArray, .agg t.cells.toArray] w fun r w' => r = .returned (.bool true) ∧ Below w.heap.size w w' := by
 obtain ⟨W, hW, b0, b1, hbW, hsW⟩ := boxes2 w s.cells t.cells 48 48
 have hE2 : t.e.shape := by rw [he]; exact hE.shape
 have HP : Hid (∀ u, Below W.heap.size W u → _) := fun u hu => sch_parts hE.shape (b0.below hu b0.lt)
 have HQ : Hid (∀ u, Below W.heap.size W u → _) := fun u hu => sch_parts hE2 (b1.below hu b1.lt)
 have HR : Hid (∀ u, Below W.heap.size W u → s.reads u ∧ t.reads u) := fun u hu => ⟨(rs.below hbW).below hu, (rt.below hbW).below hu⟩
 have HIE : Hid (_ = _) := eng_info hE.shape
 have HIF : Hid (_ = _) := eng_info hE2
 have HIL : Hid (_ = _) := infoLk
 have CE : Hid (∀ u, Below W.heap.size W u → Calls Try.prog 21 #[.agg s.e.cells.toArray, .agg t.e.cells.toArray] u fun r u' => r = .returned (.bool true) ∧ Below u.heap.size u u') := fun u hu => eqEngine_same s.e t.e hE.shape hE2 (by rw [he]) u (HR.out u hu).1.eng (HR.out u hu).2.eng hE.short
 have CL : Hid (∀ u, Calls Try.prog 22 #[.agg #[.slice none 0 0, .slice none 0 0], .agg #[.slice none 0 0, .slice none 0 0]] u fun r u' => r = .returned (.bool true) ∧ Below u.heap.size u u') := fun u => eqLocks_same [] [] none none none none 0 0 0 0 u (ReadsG.nil _ _) (ReadsG.nil _ _) (ReadsG.nil _ _) (ReadsG.nil _ _) (by decide) (by decide)
 have CJ : Hid (∀ u, Below W.heap.size W u → Calls Try.prog 9 #[.slice s.aJ s.js.length s.cJ, .slice t.aJ t.js.length t.cJ] u fun r u' => r = .returned (.bool true) ∧ Below u.heap.size u u') := fun u hu => eqOpSS_same s.aJ t.aJ s.cJ t.cJ s.js t.js u (HR.out u hu).1.js (HR.out u hu).2.js hj.out hs
 have C3 : Hid (∀ u, Below W.heap.size W u → Calls Try.prog 23 #[.slice s.a3 s.n s.c3, .slice t.a3 t.n t.c3] u fun r u' => r = .returned (.bool true) ∧ Below u.heap.size u u') := fun u hu => by
  have h := eqIntS_same s.a3 t.a3 s.c3 t.c3 (zerosI s.n) u (HR.out u hu).1.r3 (by have := (HR.out u hu).2.r3; rwa [hn] at this) (by rw [zerosI_len]; omega)
  rw [zerosI_len] at h; rw [hn]; exact h.mono (fun r u' h => h.imp id (fun h => by obtain ⟨m, rfl⟩ := h; exact below_drewN (Below.refl _ _) m))
 have C4 : Hid (∀ u, Below W.heap.size W u → Calls Try.prog 23 #[.slice s.a4 s.n s.c4, .slice t.a4 t.n t.c4] u fun r u' => r = .returned (.bool true) ∧ Below u.heap.size u u') := fun u hu => by
  have h := eqIntS_same s.a4 t.a4 s.c4 t.c4 (zerosI s.n) u (HR.out u hu).1.r4 (by have := (HR.out u hu).2.r4; rwa [hn] at this) (by rw [zerosI_len]; omega)
  rw [zerosI_len] at h; rw [hn]; exact h.mono (fun r u' h => h.imp id (fun h => by obtain ⟨m, rfl⟩ := h; exact below_drewN (Below.refl _ _) m))
 have C5 : Hid (∀ u, Below W.heap.size W u → Calls Try.prog 23 #[.slice s.a5 s.n s.c5, .slice t.a5 t.n t.c5] u fun r u' => r = .returned (.bool true) ∧ Below u.heap.size u u') := fun u hu => by
  have h := eqIntS_same s.a5 t.a5 s.c5 t.c5 (zerosI s.n) u (HR.out u hu).1.r5 (by have := (HR.out u hu).2.r5; rwa [hn] at this) (by rw [zerosI_len]; omega)
  rw [zerosI_len] at h; rw [hn]; exact h.mono (fun r u' h => h.imp id (fun h => by obtain ⟨m, rfl⟩ := h; exact below_drewN (Below.refl _ _) m))
 have C6 : Hid (∀ u, Below W.heap.size W u → Calls Try.prog 23 #[.slice s.a6 s.n s.c6, .slice t.a6 t.n t.c6] u fun r u' => r = .returned (.bool true) ∧ Below u.heap.size u u') := fun u hu => by
  have h := eqIntS_same s.a6 t.a6 s.c6 t.c6 (zerosI s.n) u (HR.out u hu).1.r6 (by have := (HR.out u hu).2.r6; rwa [hn] at this) (by rw [zerosI_len]; omega)
  rw [zerosI_len] at h; rw [hn]; exact h.mono (fun r u' h => h.imp id (fun h => by obtain ⟨m, rfl⟩ := h; exact below_drewN (Below.refl _ _) m))
 have C7 : Hid (∀ u, Calls Try.prog 23 #[.slice none 0 0, .slice none 0 0] u fun r u' => r = .returned (.bool true) ∧ Below u.heap.size u u') := fun u => (eqIntS_same none none 0 0 [] u (ReadsI.nil _ _) (ReadsI.nil _ _) (by decide)).mono (fun r u' h => h.imp id (fun h => by obtain ⟨m, rfl⟩ := h; exact below_drewN (Below.refl _ _) m))
 clear hsW b0 b1 rs rt hs hl hj hn he hE hE2
 have N : Below W.heap.size W W := Below.refl _ _
 obtain ⟨p0, p1, p2, p3, p4, p5, p6, p7⟩ := HP.out _ N
 obtain ⟨q0, q1, q2, q3, q4, q5, q6, q7⟩ := HQ.out _ N
 go_enter Try.func8, Try.ntmps8
 go_wp2_with (first | (guard_target = wpList _ _ _ (Oper.mk (some 6) _ _ _ _ _ :: _) _ _; refine wpList_load_mid rfl 42 (.tmp 5) rfl w.heap.size 0 rfl s.e.cells _ (by rw [hW.out]; exact p0) Try.underlying42 rfl HIE.out ?_) | (guard_target = wpList _ _ _ (Oper.mk (some 8) _ _ _ _ _ :: _) _ _; refine wpList_load_mid rfl 42 (.tmp 7) rfl (w.heap.size + 1) 0 rfl t.e.cells _ (by rw [hW.out]; exact q0) Try.underlying42 rfl HIF.out ?_) | fail)
 rw [hW.out]
 clear hW
 refine (CE.out _ N).mono ?_
 rintro r w1 ⟨rfl, hb⟩
 replace N := N.trans (hb.mono N.size)
 clear hb p0 p1 p2 p3 p4 p5 p6 p7 q0 q1 q2 q3 q4 q5 q6 q7
 obtain ⟨p0, p1, p2, p3, p4, p5, p6, p7⟩ := HP.out _ N
 obtain ⟨q0, q1, q2, q3, q4, q5, q6, q7⟩ := HQ.out _ N
 go_wp2_with (first | (guard_target = wpList _ _ _ (Oper.mk (some 12) _ _ _ _ _ :: _) _ _; refine wpList_load_mid rfl 45 (.tmp 11) rfl w.heap.size 144 rfl [.slice none 0 0, .slice none 0 0] _ p1 Try.underlying45 rfl HIL.out ?_) | (guard_target = wpList _ _ _ (Oper.mk (some 14) _ _ _ _ _ :: _) _ _; refine wpList_load_mid rfl 45 (.tmp 13) rfl (w.heap.size + 1) 144 rfl [.slice none 0 0, .slice none 0 0] _ q1 Try.underlying45 rfl HIL.out ?_) | fail)
 refine (CL.out _).mono ?_
 rintro r w2 ⟨rfl, hb⟩
 replace N := N.trans (hb.mono N.size)
 clear hb p0 p1 p2 p3 p4 p5 p6 p7 q0 q1 q2 q3 q4 q5 q6 q7
 obtain ⟨p0, p1, p2, p3, p4, p5, p6, p7⟩ := HP.out _ N
 obtain ⟨q0, q1, q2, q3, q4, q5, q6, q7⟩ := HQ.out _ N
 go_wp2_with fail
 refine (CJ.out _ N).mono ?_
 rintro r w3 ⟨rfl, hb⟩
 replace N := N.trans (hb.mono N.size)
 clear hb p0 p1 p2 p3 p4 p5 p6 p7 q0 q1 q2 q3 q4 q5 q6 q7
 obtain ⟨p0, p1, p2, p3, p4, p5, p6, p7⟩ := HP.out _ N
 obtain ⟨q0, q1, q2, q3, q4, q5, q6, q7⟩ := HQ.out _ N
 go_wp2_with fail
 refine (C3.out _ N).mono ?_
 rintro r w4 ⟨rfl, hb⟩
 replace N := N.trans (hb.mono N.size)
 clear hb p0 p1 p2 p3 p4 p5 p6 p7 q0 q1 q2 q3 q4 q5 q6 q7
 obtain ⟨p0, p1, p2, p3, p4, p5, p6, p7⟩ := HP.out _ N
 obtain ⟨q0, q1, q2, q3, q4, q5, q6, q7⟩ := HQ.out _ N
 go_wp2_with fail
 refine (C4.out _ N).mono ?_
 rintro r w5 ⟨rfl, hb⟩
 replace N := N.trans (hb.mono N.size)
 clear hb p0 p1 p2 p3 p4 p5 p6 p7 q0 q1 q2 q3 q4 q5 q6 q7
 obtain ⟨p0, p1, p2, p3, p4, p5, p6, p7⟩ := HP.out _ N
 obtain ⟨q0, q1, q2, q3, q4, q5, q6, q7⟩ := HQ.out _ N
 go_wp2_with fail
 refine (C5.out _ N).mono ?_
 rintro r w6 ⟨rfl, hb⟩
 replace N := N.trans (hb.mono N.size)
 clear hb p0 p1 p2 p3 p4 p5 p6 p7 q0 q1 q2 q3 q4 q5 q6 q7
 obtain ⟨p0, p1, p2, p3, p4, p5, p6, p7⟩ := HP.out _ N
 obtain ⟨q0, q1, q2, q3, q4, q5, q6, q7⟩ := HQ.out _ N
 go_wp2_with fail
 refine (C6.out _ N).mono ?_
 rintro r w7 ⟨rfl, hb⟩
 replace N := N.trans (hb.mono N.size)
 clear hb p0 p1 p2 p3 p4 p5 p6 p7 q0 q1 q2 q3 q4 q5 q6 q7
 obtain ⟨p0, p1, p2, p3, p4, p5, p6, p7⟩ := HP.out _ N
 obtain ⟨q0, q1, q2, q3, q4, q5, q6, q7⟩ := HQ.out _ N
 go_wp2_with fail
 refine (C7.out _).mono ?_
 rintro r w8 ⟨rfl, hb⟩
 replace N := N.trans (hb.mono N.size)
 clear hb p0 p1 p2 p3 p4 p5 p6 p7 q0 q1 q2 q3 q4 q5 q6 q7
 obtain ⟨p0, p1, p2, p3, p4, p5, p6, p7⟩ := HP.out _ N
 obtain ⟨q0, q1, q2, q3, q4, q5, q6, q7⟩ := HQ.out _ N
 have HEND : Hid (Below w.heap.size w w8) := hbW.trans (N.mono hbW.size)
 go_wp2
 go_ret
 exact ⟨rfl, HEND.out⟩
theorem blocksJ_marks (a : Option Addr) (c : Nat) (js : List JobA) (k : Int) : blocksJ a c (markJs js k) = blocksJ a c js := by simp only [blocksJ, markJs_len, blocksJ_mark]
def SchA.k3 (s : SchA) (k : Int) : Int := k + (countJ s.js : Int)
def SchA.k4 (s : SchA) (k : Int) : Int := s.k3 k + (s.n : Int)
def SchA.k5 (s : SchA) (k : Int) : Int := s.k4 k + (s.n : Int)
def SchA.k6 (s : SchA) (k : Int) : Int := s.k5 k + (s.n : Int)
def SchA.kS (s : SchA) (k : Int) : Int := s.k6 k + (s.n : Int)
structure SchA.marked (w : World) (lo hi : Nat) (s : SchA) (k : Int) : Prop where
 eng : ∃ m, s.e.marked w 0 m k
 lists : s.holds w lo hi (markJs s.js k) (marksI (s.k3 k) s.n) (marksI (s.k4 k) s.n) (marksI (s.k5 k) s.n) (marksI (s.k6 k) s.n)
theorem SchA.marked.below {w w' : World} {lo hi : Nat} {s : SchA} {k : Int} (h : s.marked w lo hi k) (hb : Below w.heap.size w w') : s.marked w' lo hi k := ⟨h.eng.imp (fun _ h => h.below hb), h.lists.below hb⟩
theorem markSched_touch (s : SchA) (hE : Bare s.e) (lo hi : Nat) (k0 : Int) (w : World) (ho : s.own w lo hi) (hhi : hi ≤ w.heap.size) (h0 : 0 ≤ k0) (hk : k0 ≤ 1000) (hn : s.n ≤ 1000) (hc : countJ s.js ≤ 1000) :
  Calls Try.prog 11 #[.agg s.cells.toArray, .int .i64 k0] w fun r w' => r = .returned (.int .i64 (s.kS k0)) ∧ s.marked w' lo hi k0 ∧ Touch s.blocks w w' := by
 have hbl := ho.blocks_lt
 have HAP := ho.apart
 obtain ⟨W, hW, b0, hbW, hsW⟩ := boxes1 w s.cells 48
 have hs0 : w.heap.size < W.heap.size := by omega
 have hwB : w.heap.size ∉ s.blocks := fun h => by have := (hbl _ h).2; omega
 have HP : Hid (∀ u, Touch s.blocks W u → _) := fun u hu => sch_parts hE.shape (b0.touch hu hwB)
 have HIE : Hid (_ = _) := eng_info hE.shape
 have HIL : Hid (_ = _) := infoLk
 simp only [SchA.blocks, SchA.rows, List.nodup_append, List.mem_append] at HAP
 obtain ⟨_, ⟨_, ⟨_, ⟨_, _, a56⟩, a4⟩, a3⟩, aJ⟩ := HAP
 have SJ : Hid (∀ k ∈ blocksJ s.aJ s.cJ s.js, k ∈ s.blocks) := fun k h => List.mem_append.2 (.inl h)
 have S3 : Hid (∀ k ∈ rowB s.a3 s.n s.c3, k ∈ s.blocks) := fun k h => List.mem_append.2 (.inr (List.mem_append.2 (.inl h)))
 have S4 : Hid (∀ k ∈ rowB s.a4 s.n s.c4, k ∈ s.blocks) := fun k h => List.mem_append.2 (.inr (List.mem_append.2 (.inr (List.mem_append.2 (.inl h)))))
 have S5 : Hid (∀ k ∈ rowB s.a5 s.n s.c5, k ∈ s.blocks) := fun k h => List.mem_append.2 (.inr (List.mem_append.2 (.inr (List.mem_append.2 (.inr (List.mem_append.2 (.inl h)))))))
 have S6 : Hid (∀ k ∈ rowB s.a6 s.n s.c6, k ∈ s.blocks) := fun k h => List.mem_append.2 (.inr (List.mem_append.2 (.inr (List.mem_append.2 (.inr (List.mem_append.2 (.inr h)))))))
 have hq : 0 ≤ s.k3 k0 ∧ s.k3 k0 ≤ 2000 ∧ 0 ≤ s.k4 k0 ∧ s.k4 k0 ≤ 3000 ∧ 0 ≤ s.k5 k0 ∧ s.k5 k0 ≤ 4000 ∧ 0 ≤ s.k6 k0 ∧ s.k6 k0 ≤ 5000 := by unfold SchA.k6 SchA.k5 SchA.k4 SchA.k3; omega
 have oj := ho.lists.js.below hbW
 have o3 := ho.lists.r3.below hbW
 have o4 := ho.lists.r4.below hbW
 have o5 := ho.lists.r5.below hbW
 have o6 := ho.lists.r6.below hbW
 have CE : Hid (Calls Try.prog 26 #[.agg s.e.cells.toArray, .int .i64 k0] W fun r u' => r = .returned (.int .i64 k0) ∧ s.e.marked u' 0 W.heap.size k0 ∧ Below W.heap.size W u') := by
  refine (markEngine_touch s.e hE.shape 0 W.heap.size k0 W (hE.own W) hE.short h0 (by rw [hE.kE, hE.kP]; omega) (Nat.le_refl _)).mono ?_
  rintro r u' ⟨rfl, om, t⟩
  rw [hE.blocks] at t
  exact ⟨by rw [hE.kE], om, touch_nil t⟩
 have HEB : Hid (∀ j ∈ s.e.blocks, j ∉ s.blocks) := by rw [hE.blocks]; exact (fun j hj => by cases hj)
 clear hbl hsW b0 hE ho
 have T0 : Touch s.blocks W W := Touch.refl _ _
 obtain ⟨p0, p1, p2, p3, p4, p5, p6, p7⟩ := HP.out _ T0
 go_enter Try.func11, Try.ntmps11
 go_wp2_with (first | (guard_target = wpList _ _ _ (Oper.mk (some 6) _ _ _ _ _ :: _) _ _; refine wpList_load_mid rfl 42 (.tmp 5) rfl w.heap.size 0 rfl s.e.cells _ (by rw [hW.out]; exact p0) Try.underlying42 rfl HIE.out ?_) | fail)
 rw [hW.out]
 clear hW
 refine CE.out.mono ?_
 rintro r w1 ⟨rfl, om, hb⟩
 have T1 : Touch s.blocks W w1 := Touch.of_below hb
 have N1 := hb
 replace oj := oj.below hb
 replace o3 := o3.below hb
 replace o4 := o4.below hb
 replace o5 := o5.below hb
 replace o6 := o6.below hb
 clear CE hb p0 p1 p2 p3 p4 p5 p6 p7
 obtain ⟨p0, p1, p2, p3, p4, p5, p6, p7⟩ := HP.out _ T1
 go_wp2_with (first | (guard_target = wpList _ _ _ (Oper.mk (some 10) _ _ _ _ _ :: _) _ _; refine wpList_load_mid rfl 45 (.tmp 9) rfl w.heap.size 144 rfl [.slice none 0 0, .slice none 0 0] _ p1 Try.underlying45 rfl HIL.out ?_) | fail)
 refine (markLocks_nil k0 w1 h0 (by omega)).mono ?_
 rintro r w2 ⟨rfl, hb⟩
 have T2 : Touch s.blocks W w2 := T1.trans (Touch.of_below hb)
 replace oj := oj.below hb
 replace o3 := o3.below hb
 replace o4 := o4.below hb
 replace o5 := o5.below hb
 replace o6 := o6.below hb
 replace om := om.below hb
 clear hb p0 p1 p2 p3 p4 p5 p6 p7
 obtain ⟨p0, p1, p2, p3, p4, p5, p6, p7⟩ := HP.out _ T2
 have CJ := markOpSS_touch lo hi s.aJ s.cJ k0 s.js w2 oj h0 (by omega)
 have E3 : Hid (k0 + (countJ s.js : Int) = s.k3 k0) := rfl
 rw [E3.out] at CJ
 clear E3
 go_wp2_with fail
 refine CJ.mono ?_
 rintro r w3 ⟨rfl, oj, t⟩
 have T3 : Touch s.blocks W w3 := T2.trans (t.mono SJ.out)
 replace om := om.touch (t.mono SJ.out) HEB.out
 replace o3 := o3.touch t (fun k hk hm => aJ k hm k (.inl (by rw [zerosI_len] at hk; exact Option.mem_toList.2 hk)) rfl)
 replace o4 := o4.touch t (fun k hk hm => aJ k hm k (.inr (.inl (by rw [zerosI_len] at hk; exact Option.mem_toList.2 hk))) rfl)
 replace o5 := o5.touch t (fun k hk hm => aJ k hm k (.inr (.inr (.inl (by rw [zerosI_len] at hk; exact Option.mem_toList.2 hk)))) rfl)
 replace o6 := o6.touch t (fun k hk hm => aJ k hm k (.inr (.inr (.inr (by rw [zerosI_len] at hk; exact Option.mem_toList.2 hk)))) rfl)
 clear CJ t p0 p1 p2 p3 p4 p5 p6 p7
 obtain ⟨p0, p1, p2, p3, p4, p5, p6, p7⟩ := HP.out _ T3
 have C3 := markIntS_touch lo hi s.a3 s.c3 (s.k3 k0) (zerosI s.n) w3 o3 hq.1 (by rw [zerosI_len]; omega)
 rw [zerosI_len] at C3
 have E3 : Hid (s.k3 k0 + (s.n : Int) = s.k4 k0) := rfl
 rw [E3.out] at C3
 clear E3
 go_wp2_with fail
 refine C3.mono ?_
 rintro r w4 ⟨rfl, o3, t⟩
 have T4 : Touch s.blocks W w4 := T3.trans (t.mono S3.out)
 replace om := om.touch (t.mono S3.out) HEB.out
 replace oj := oj.touch t (fun k hk hm => by rw [blocksJ_marks] at hk; exact aJ k hk k (.inl hm) rfl)
 replace o4 := o4.touch t (fun k hk hm => by rw [zerosI_len] at hk; replace hk := Option.mem_toList.2 hk; exact a3 k hm k (.inl hk) rfl)
 replace o5 := o5.touch t (fun k hk hm => by rw [zerosI_len] at hk; replace hk := Option.mem_toList.2 hk; exact a3 k hm k (.inr (.inl hk)) rfl)
 replace o6 := o6.touch t (fun k hk hm => by rw [zerosI_len] at hk; replace hk := Option.mem_toList.2 hk; exact a3 k hm k (.inr (.inr hk)) rfl)
 clear C3 t p0 p1 p2 p3 p4 p5 p6 p7
 obtain ⟨p0, p1, p2, p3, p4, p5, p6, p7⟩ := HP.out _ T4
 have C4 := markIntS_touch lo hi s.a4 s.c4 (s.k4 k0) (zerosI s.n) w4 o4 hq.2.2.1 (by rw [zerosI_len]; omega)
 rw [zerosI_len] at C4
 have E4 : Hid (s.k4 k0 + (s.n : Int) = s.k5 k0) := rfl
 rw [E4.out] at C4
 clear E4
 go_wp2_with fail
 refine C4.mono ?_
 rintro r w5 ⟨rfl, o4, t⟩
 have T5 : Touch s.blocks W w5 := T4.trans (t.mono S4.out)
 replace om := om.touch (t.mono S4.out) HEB.out
 replace oj := oj.touch t (fun k hk hm => by rw [blocksJ_marks] at hk; exact aJ k hk k (.inr (.inl hm)) rfl)
 replace o3 := o3.touch t (fun k hk hm => by rw [marksI_len] at hk; replace hk := Option.mem_toList.2 hk; exact a3 k hk k (.inl hm) rfl)
 replace o5 := o5.touch t (fun k hk hm => by rw [zerosI_len] at hk; replace hk := Option.mem_toList.2 hk; exact a4 k hm k (.inl hk) rfl)
 replace o6 := o6.touch t (fun k hk hm => by rw [zerosI_len] at hk; replace hk := Option.mem_toList.2 hk; exact a4 k hm k (.inr hk) rfl)
 clear C4 t p0 p1 p2 p3 p4 p5 p6 p7
 obtain ⟨p0, p1, p2, p3, p4, p5, p6, p7⟩ := HP.out _ T5
 have C5 := markIntS_touch lo hi s.a5 s.c5 (s.k5 k0) (zerosI s.n) w5 o5 hq.2.2.2.2.1 (by rw [zerosI_len]; omega)
 rw [zerosI_len] at C5
 have E5 : Hid (s.k5 k0 + (s.n : Int) = s.k6 k0) := rfl
 rw [E5.out] at C5
 clear E5
 go_wp2_with fail
 refine C5.mono ?_
 rintro r w6 ⟨rfl, o5, t⟩
 have T6 : Touch s.blocks W w6 := T5.trans (t.mono S5.out)
 replace om := om.touch (t.mono S5.out) HEB.out
 replace oj := oj.touch t (fun k hk hm => by rw [blocksJ_marks] at hk; exact aJ k hk k (.inr (.inr (.inl hm))) rfl)
 replace o3 := o3.touch t (fun k hk hm => by rw [marksI_len] at hk; replace hk := Option.mem_toList.2 hk; exact a3 k hk k (.inr (.inl hm)) rfl)
 replace o4 := o4.touch t (fun k hk hm => by rw [marksI_len] at hk; replace hk := Option.mem_toList.2 hk; exact a4 k hk k (.inl hm) rfl)
 replace o6 := o6.touch t (fun k hk hm => by rw [zerosI_len] at hk; replace hk := Option.mem_toList.2 hk; exact a56 k hm k hk rfl)
 clear C5 t p0 p1 p2 p3 p4 p5 p6 p7
 obtain ⟨p0, p1, p2, p3, p4, p5, p6, p7⟩ := HP.out _ T6
 have C6 := markIntS_touch lo hi s.a6 s.c6 (s.k6 k0) (zerosI s.n) w6 o6 hq.2.2.2.2.2.2.1 (by rw [zerosI_len]; omega)
 rw [zerosI_len] at C6
 have E6 : Hid (s.k6 k0 + (s.n : Int) = s.kS k0) := rfl
 rw [E6.out] at C6
 clear E6
 go_wp2_with fail
 refine C6.mono ?_
 rintro r w7 ⟨rfl, o6, t⟩
 have T7 : Touch s.blocks W w7 := T6.trans (t.mono S6.out)
 replace om := om.touch (t.mono S6.out) HEB.out
 replace oj := oj.touch t (fun k hk hm => by rw [blocksJ_marks] at hk; exact aJ k hk k (.inr (.inr (.inr hm))) rfl)
 replace o3 := o3.touch t (fun k hk hm => by rw [marksI_len] at hk; replace hk := Option.mem_toList.2 hk; exact a3 k hk k (.inr (.inr hm)) rfl)
 replace o4 := o4.touch t (fun k hk hm => by rw [marksI_len] at hk; replace hk := Option.mem_toList.2 hk; exact a4 k hk k (.inr hm) rfl)
 replace o5 := o5.touch t (fun k hk hm => by rw [marksI_len] at hk; replace hk := Option.mem_toList.2 hk; exact a56 k hk k hm rfl)
 clear C6 t p0 p1 p2 p3 p4 p5 p6 p7
 obtain ⟨p0, p1, p2, p3, p4, p5, p6, p7⟩ := HP.out _ T7
 have CN : Hid (Calls Try.prog 28 #[.slice none 0 0, .int .i64 (s.kS k0)] w7 fun r u' => r = .returned (.int .i64 (s.kS k0)) ∧ Below w7.heap.size w7 u') := by
  refine (markIntS_touch 0 w7.heap.size none 0 (s.kS k0) [] w7 (ownI_nil _ _ _ (Nat.le_refl _)) (by unfold SchA.kS; omega) (by simp only [List.length_nil]; unfold SchA.kS; omega)).mono ?_
  rintro r u' ⟨rfl, _, t⟩
  exact ⟨by simp, touch_nil t⟩
 go_wp2_with fail
 refine CN.out.mono ?_
 rintro r w8 ⟨rfl, hb⟩
 have HEND : Hid (s.marked w8 lo hi k0 ∧ Touch s.blocks w w8) := ⟨⟨⟨_, om.below hb⟩, ⟨oj.below hb, o3.below hb, o4.below hb, o5.below hb, o6.below hb⟩⟩, (Touch.of_below hbW).trans (T7.trans (Touch.of_below hb))⟩
 clear CN hb p0 p1 p2 p3 p4 p5 p6 p7 om oj o3 o4 o5 o6
 go_wp2
 go_ret
 exact ⟨rfl, HEND.out.1, HEND.out.2⟩
theorem heldSched_any (s : SchA) (hE : Bare s.e) (lo hi : Nat) (k0 : Int) (w : World) (ho : s.marked w lo hi k0) (h0 : 0 ≤ k0) (hk : k0 ≤ 1000) (hn : s.n ≤ 1000) (hc : countJ s.js ≤ 1000) (hjl : s.js.length ≤ 1000) :
  Calls Try.prog 12 #[.agg s.cells.toArray, .int .i64 k0] w fun r w' => r = .returned (.int .i64 (s.kS k0)) ∧ Below w.heap.size w w' := by
 obtain ⟨W, hW, b0, hbW, hsW⟩ := boxes1 w s.cells 48
 have HP : Hid (∀ u, Below W.heap.size W u → _) := fun u hu => sch_parts hE.shape (b0.below hu b0.lt)
 have HM : Hid (∀ u, Below W.heap.size W u → s.marked u lo hi k0) := fun u hu => (ho.below hbW).below hu
 have HIE : Hid (_ = _) := eng_info hE.shape
 have HIL : Hid (_ = _) := infoLk
 have hq : 0 ≤ s.k3 k0 ∧ s.k3 k0 ≤ 2000 ∧ 0 ≤ s.k4 k0 ∧ s.k4 k0 ≤ 3000 ∧ 0 ≤ s.k5 k0 ∧ s.k5 k0 ≤ 4000 ∧ 0 ≤ s.k6 k0 ∧ s.k6 k0 ≤ 5000 ∧ 0 ≤ s.kS k0 ∧ s.kS k0 ≤ 6000 := by unfold SchA.kS SchA.k6 SchA.k5 SchA.k4 SchA.k3; omega
 obtain ⟨hq3, hq3', hq4, hq4', hq5, hq5', hq6, hq6', hqS, hqS'⟩ := hq
 have CE : Hid (∀ u, Below W.heap.size W u → Calls Try.prog 29 #[.agg s.e.cells.toArray, .int .i64 k0] u fun r u' => r = .returned (.int .i64 k0) ∧ Below u.heap.size u u') := fun u hu => by
  obtain ⟨m, om⟩ := (HM.out u hu).eng
  have h := heldEngine_any s.e hE.shape 0 m k0 u om hE.short h0 (by rw [hE.kE, hE.kP]; omega)
  rwa [hE.kE] at h
 have CJ : Hid (∀ u, Below W.heap.size W u → Calls Try.prog 31 #[.slice s.aJ s.js.length s.cJ, .int .i64 k0] u fun r u' => r = .returned (.int .i64 (s.k3 k0)) ∧ Below u.heap.size u u') := fun u hu => by
  refine (heldOpSS_any s.aJ s.cJ k0 s.js u (HM.out u hu).lists.js.reads h0 (by omega) (by omega)).mono ?_
  rintro r u' ⟨rfl, rfl⟩
  exact ⟨rfl, Below.refl _ _⟩
 have C3 : Hid (∀ u, Below W.heap.size W u → Calls Try.prog 32 #[.slice s.a3 s.n s.c3, .int .i64 (s.k3 k0)] u fun r u' => r = .returned (.int .i64 (s.k4 k0)) ∧ Below u.heap.size u u') := fun u hu => by
  refine (heldIntS_own lo hi s.a3 s.c3 (s.k3 k0) s.n u (HM.out u hu).lists.r3 hq3 (by omega)).mono ?_
  rintro r u' ⟨rfl, rfl⟩
  exact ⟨rfl, Below.refl _ _⟩
 have C4 : Hid (∀ u, Below W.heap.size W u → Calls Try.prog 32 #[.slice s.a4 s.n s.c4, .int .i64 (s.k4 k0)] u fun r u' => r = .returned (.int .i64 (s.k5 k0)) ∧ Below u.heap.size u u') := fun u hu => by
  refine (heldIntS_own lo hi s.a4 s.c4 (s.k4 k0) s.n u (HM.out u hu).lists.r4 hq4 (by omega)).mono ?_
  rintro r u' ⟨rfl, rfl⟩
  exact ⟨rfl, Below.refl _ _⟩
 have C5 : Hid (∀ u, Below W.heap.size W u → Calls Try.prog 32 #[.slice s.a5 s.n s.c5, .int .i64 (s.k5 k0)] u fun r u' => r = .returned (.int .i64 (s.k6 k0)) ∧ Below u.heap.size u u') := fun u hu => by
  refine (heldIntS_own lo hi s.a5 s.c5 (s.k5 k0) s.n u (HM.out u hu).lists.r5 hq5 (by omega)).mono ?_
  rintro r u' ⟨rfl, rfl⟩
  exact ⟨rfl, Below.refl _ _⟩
 have C6 : Hid (∀ u, Below W.heap.size W u → Calls Try.prog 32 #[.slice s.a6 s.n s.c6, .int .i64 (s.k6 k0)] u fun r u' => r = .returned (.int .i64 (s.kS k0)) ∧ Below u.heap.size u u') := fun u hu => by
  refine (heldIntS_own lo hi s.a6 s.c6 (s.k6 k0) s.n u (HM.out u hu).lists.r6 hq6 (by omega)).mono ?_
  rintro r u' ⟨rfl, rfl⟩
  exact ⟨rfl, Below.refl _ _⟩
 have CN : Hid (∀ u, Calls Try.prog 32 #[.slice none 0 0, .int .i64 (s.kS k0)] u fun r u' => r = .returned (.int .i64 (s.kS k0)) ∧ Below u.heap.size u u') := fun u => by
  refine (heldIntS_any none 0 (s.kS k0) 0 u (by intro h; exact absurd (by simp [marksI]) h) hqS (by omega)).mono ?_
  rintro r u' ⟨rfl, rfl⟩
  exact ⟨by simp, Below.refl _ _⟩
 have n0 : ¬ k0 < 0 := by omega
 have n3 : ¬ s.k3 k0 < 0 := by omega
 have n4 : ¬ s.k4 k0 < 0 := by omega
 have n5 : ¬ s.k5 k0 < 0 := by omega
 have n6 : ¬ s.k6 k0 < 0 := by omega
 have nS : ¬ s.kS k0 < 0 := by omega
 have HL : Hid (∀ u, Calls Try.prog 30 #[.agg #[.slice none 0 0, .slice none 0 0], .int .i64 k0] u fun r u' => r = .returned (.int .i64 k0) ∧ Below u.heap.size u u') := fun u => heldLocks_nil k0 u h0 (by omega)
 clear hq3 hq3' hq4 hq4' hq5 hq5' hq6 hq6' hqS hqS' hsW b0 hE ho
 have N : Below W.heap.size W W := Below.refl _ _
 obtain ⟨p0, p1, p2, p3, p4, p5, p6, p7⟩ := HP.out _ N
 go_enter Try.func12, Try.ntmps12
 go_wp2_with (first | (guard_target = wpList _ _ _ (Oper.mk (some 6) _ _ _ _ _ :: _) _ _; refine wpList_load_mid rfl 42 (.tmp 5) rfl w.heap.size 0 rfl s.e.cells _ (by rw [hW.out]; exact p0) Try.underlying42 rfl HIE.out ?_) | fail)
 rw [hW.out]
 clear hW
 refine (CE.out _ N).mono ?_
 rintro r w1 ⟨rfl, hb⟩
 replace N := N.trans (hb.mono N.size)
 clear hb p0 p1 p2 p3 p4 p5 p6 p7
 obtain ⟨p0, p1, p2, p3, p4, p5, p6, p7⟩ := HP.out _ N
 go_wp2_with (first | (guard_target = wpList _ _ _ (Oper.mk (some 12) _ _ _ _ _ :: _) _ _; refine wpList_load_mid rfl 45 (.tmp 11) rfl w.heap.size 144 rfl [.slice none 0 0, .slice none 0 0] _ p1 Try.underlying45 rfl HIL.out ?_) | fail)
 refine (HL.out _).mono ?_
 rintro r w2 ⟨rfl, hb⟩
 replace N := N.trans (hb.mono N.size)
 clear hb p0 p1 p2 p3 p4 p5 p6 p7
 obtain ⟨p0, p1, p2, p3, p4, p5, p6, p7⟩ := HP.out _ N
 go_wp2_with fail
 refine (CJ.out _ N).mono ?_
 rintro r w3 ⟨rfl, hb⟩
 replace N := N.trans (hb.mono N.size)
 clear hb p0 p1 p2 p3 p4 p5 p6 p7
 obtain ⟨p0, p1, p2, p3, p4, p5, p6, p7⟩ := HP.out _ N
 go_wp2_with fail
 refine (C3.out _ N).mono ?_
 rintro r w4 ⟨rfl, hb⟩
 replace N := N.trans (hb.mono N.size)
 clear hb p0 p1 p2 p3 p4 p5 p6 p7
 obtain ⟨p0, p1, p2, p3, p4, p5, p6, p7⟩ := HP.out _ N
 go_wp2_with fail
 refine (C4.out _ N).mono ?_
 rintro r w5 ⟨rfl, hb⟩
 replace N := N.trans (hb.mono N.size)
 clear hb p0 p1 p2 p3 p4 p5 p6 p7
 obtain ⟨p0, p1, p2, p3, p4, p5, p6, p7⟩ := HP.out _ N
 go_wp2_with fail
 refine (C5.out _ N).mono ?_
 rintro r w6 ⟨rfl, hb⟩
 replace N := N.trans (hb.mono N.size)
 clear hb p0 p1 p2 p3 p4 p5 p6 p7
 obtain ⟨p0, p1, p2, p3, p4, p5, p6, p7⟩ := HP.out _ N
 go_wp2_with fail
 refine (C6.out _ N).mono ?_
 rintro r w7 ⟨rfl, hb⟩
 replace N := N.trans (hb.mono N.size)
 clear hb p0 p1 p2 p3 p4 p5 p6 p7
 obtain ⟨p0, p1, p2, p3, p4, p5, p6, p7⟩ := HP.out _ N
 go_wp2_with fail
 refine (CN.out _).mono ?_
 rintro r w8 ⟨rfl, hb⟩
 replace N := N.trans (hb.mono N.size)
 clear hb p0 p1 p2 p3 p4 p5 p6 p7
 obtain ⟨p0, p1, p2, p3, p4, p5, p6, p7⟩ := HP.out _ N
 have HEND : Hid (Below w.heap.size w w8) := hbW.trans (N.mono hbW.size)
 go_wp2
 go_ret
 exact ⟨rfl, HEND.out⟩
theorem ownI_zeros (w : World) (n : Nat) (hn : n ≤ 1000) : OwnI (w.alloc (.cells ((zerosI n).map (Value.int .i64)).toArray 3)) w.heap.size (w.heap.size + 1) (some ⟨w.heap.size, 0, none⟩) n (zerosI n) := by
 have := World.ownsRow_lit (base := w.heap.size) (e := 3) (size := 1) w ((zerosI n).map (Value.int .i64)).toArray n (Nat.le_refl _) (by simp only [maxLen]; omega) (by simp [zerosI])
 refine ⟨?_, by simp, fun k hk => by cases hk; simp⟩
 rw [zerosI_len]
 simpa using this
theorem wp_make_zeros {o : Oper} {a : Act} {w : World} {K : Act → World → Prop} {Q : Exit → Act → World → Prop} (n : Nat) (hn : n ≤ 1000) (l c : Operand) (hop : o.op = .makeSlice 24 l c) (hl : a.eval l = .int .i64 (n : Int)) (hc : a.eval c = .int .i64 (n : Int))
  (h : K (a.put o.dst (.slice (some ⟨w.heap.size, 0, none⟩) n n)) (w.alloc (.cells ((zerosI n).map (Value.int .i64)).toArray 3))) : Oper.wp Try.prog o a w K Q := by
 have hrun := run_make_row' (P := Try.prog) 24 3 (.int .i64 0) 8 Try.underlying24 Try.infoInt rfl .i64 .i64 n (by omega) (by omega) w
 have e : madeCells #[Value.int .i64 0] n = ((zerosI n).map (Value.int .i64)).toArray := by
  apply Array.ext'
  rw [toList_madeCells_one]
  simp [zerosI]
 rw [e] at hrun
 unfold Oper.wp
 simp only [execOp, hop, hl, hc, Sem.run_bind, hrun, Result.andThen_ok, Sem.run_pure]
 exact h
theorem run_buildS (w : World) (a2 : Option Addr) (n2 c2 : Nat) (a3 : Option Addr) (n3 c3 : Nat) (a4 : Option Addr) (n4 c4 : Nat) (a5 : Option Addr) (n5 c5 : Nat) (a6 : Option Addr) (n6 c6 : Nat) :
  (Instr.build 48 #[(0, .agg newE.cells.toArray), (2, .slice a2 n2 c2), (3, .slice a3 n3 c3), (4, .slice a4 n4 c4), (5, .slice a5 n5 c5), (6, .slice a6 n6 c6)]).run Try.prog w = .ok (.agg (newE.cells ++ ([.slice none 0 0, .slice none 0 0, .slice a2 n2 c2, .slice a3 n3 c3, .slice a4 n4 c4, .slice a5 n5 c5, .slice a6 n6 c6, .slice none 0 0] : List Value)).toArray) w := run_build w _ _ _ (by kernel_rfl)
theorem run_buildZ (w : World) : (Instr.build 48 #[]).run Try.prog w = .ok (.agg zeroSch.cells.toArray) w := run_build w _ _ _ (by kernel_rfl)
theorem wp_buildS {o : Oper} {a : Act} {w : World} {K : Act → World → Prop} {Q : Exit → Act → World → Prop} (hop : o.op = .build 48 #[(0, .tmp 10), (2, .tmp 12), (3, .tmp 14), (4, .tmp 16), (5, .tmp 18), (6, .tmp 20)]) (q : SchA) (he : q.e = newE)
  (h0 : a.eval (.tmp 10) = .agg newE.cells.toArray) (h2 : a.eval (.tmp 12) = .slice q.aJ q.js.length q.cJ) (h3 : a.eval (.tmp 14) = .slice q.a3 q.n q.c3) (h4 : a.eval (.tmp 16) = .slice q.a4 q.n q.c4) (h5 : a.eval (.tmp 18) = .slice q.a5 q.n q.c5) (h6 : a.eval (.tmp 20) = .slice q.a6 q.n q.c6)
  (h : K (a.put o.dst (.agg q.cells.toArray)) w) : Oper.wp Try.prog o a w K Q := by
 have hr := run_buildS w q.aJ q.js.length q.cJ q.a3 q.n q.c3 q.a4 q.n q.c4 q.a5 q.n q.c5 q.a6 q.n q.c6
 have e : q.cells = newE.cells ++ [.slice none 0 0, .slice none 0 0, .slice q.aJ q.js.length q.cJ, .slice q.a3 q.n q.c3, .slice q.a4 q.n q.c4, .slice q.a5 q.n q.c5, .slice q.a6 q.n q.c6, .slice none 0 0] := by rw [SchA.cells, he]; rfl
 rw [← e] at hr
 unfold Oper.wp
 simp only [execOp, hop, List.map_toArray, List.map_cons, List.map_nil, h0, h2, h3, h4, h5, h6, Sem.run_bind, hr, Result.andThen_ok, Sem.run_pure]
 exact h
theorem build_zeroS {w : World} {ops : Array Oper} {rest : List Oper} {dst : Option Nat} {ty : TypeId} {pos : String} {aft : Array Edge} {act : Act} {Q : Exit → Act → World → Prop}
  (h : wpList Try.prog ops Q rest (act.put dst (.agg zeroSch.cells.toArray)) w) :
  wpList Try.prog ops Q ({ dst := dst, op := .build 48 #[], type := ty, pos := pos, after := aft, guard := none } :: rest) act w := by
 refine wpList_plain rfl fun K hK => ?_
 unfold Oper.wp execOp
 simp only [List.map_toArray, List.map_nil]
 simp only [Sem.run_bind, run_buildZ w, Result.andThen_ok, Sem.run_pure]
 exact hK _ _ h
theorem alloc_sch {w : World} {ops : Array Oper} {rest : List Oper} {dst : Option Nat} {ty : TypeId} {pos : String} {aft : Array Edge} {act : Act} {Q : Exit → Act → World → Prop}
  (h : wpList Try.prog ops Q rest (act.put dst (.pointer (some ⟨w.heap.size, 0, none⟩))) (w.alloc (.cells zeroSch.cells.toArray 48))) :
  wpList Try.prog ops Q ({ dst := dst, op := .alloc 48, type := ty, pos := pos, after := aft, guard := none } :: rest) act w := by
 refine wpList_plain rfl fun K hK => ?_
 have hz := Try.zeroSched
 cases hi : Try.prog.info? 48 with
 | none => rw [hi] at hz; cases hz
 | some inf =>
  rw [hi] at hz
  have hz' : inf.zero = some (.agg zeroSch.cells.toArray) := by simpa using hz
  obtain ⟨cs, hcs⟩ : ∃ cs, zeroSch.cells = cs := ⟨_, rfl⟩
  rw [hcs] at hz' h
  unfold Oper.wp execOp
  have e1 : (zeroValue 48).run Try.prog w = .ok (.agg cs.toArray) w := by simp [zeroValue, typeInfo, hi, hz']
  have e2 : (Instr.alloc 48 true (.tuple #[])).run Try.prog w = .ok (.pointer (some ⟨w.heap.size, 0, none⟩)) (w.alloc (.cells cs.toArray 48)) := by
   unfold Instr.alloc
   simp only [Sem.run_bind, e1, Result.andThen_ok]
   simp [newVar, go_sem]
  simp only [Sem.run_bind, e2, Result.andThen_ok, Sem.run_pure]
  exact hK _ _ h
def Row1 (d u : World) (n : Nat) (c : Bool) (X : Value) (A : Nat) : Prop := c = true → X = .slice (some ⟨A, 0, none⟩) n n ∧ OwnI u A (A + 1) (some ⟨A, 0, none⟩) n (zerosI n) ∧ d.heap.size ≤ A ∧ A < u.heap.size
theorem Row1.on {d u u' : World} {n : Nat} {c : Bool} {X : Value} {A : Nat} (h : Row1 d u n c X A) (hb : Below u.heap.size u u') : Row1 d u' n c X A := fun q => by
 obtain ⟨h1, h2, h3, h4⟩ := h q
 exact ⟨h1, h2.below hb, h3, Nat.lt_of_lt_of_le h4 hb.size⟩
def Ne2 (c c' : Bool) (A A' : Nat) : Prop := c = true → c' = true → A ≠ A'
theorem Ne2.flip {c c' : Bool} {A A' : Nat} (h : Ne2 c c' A A') : Ne2 c' c A' A := fun p q e => h q p e.symm
theorem Row1.ne {d u : World} {n : Nat} {c : Bool} {X : Value} {A : Nat} (h : Row1 d u n c X A) : Ne2 c true A u.heap.size := fun q _ e => by have := (h q).2.2.2; omega
theorem row1_new (d u : World) (n : Nat) (hn : n ≤ 1000) (hd : d.heap.size ≤ u.heap.size) : Row1 d (u.alloc (.cells ((zerosI n).map (Value.int .i64)).toArray 3)) n true (.slice (some ⟨u.heap.size, 0, none⟩) n n) u.heap.size := fun _ => ⟨rfl, ownI_zeros u n hn, hd, by simp⟩
structure JobI (d u : World) (js : List JobA) (X : Value) (ks : List JobA) (aJ : Option Addr) (cJ : Nat) : Prop where
 val : X = .slice aJ ks.length cJ
 ops : Hid (opsJ ks = opsJ js)
 own : OwnJ u d.heap.size u.heap.size aJ cJ ks
def Job1 (d u : World) (js : List JobA) (c : Bool) (X : Value) (ks : List JobA) (aJ : Option Addr) (cJ : Nat) : Prop := c = true → JobI d u js X ks aJ cJ
theorem Job1.on {d u u' : World} {js : List JobA} {c : Bool} {X : Value} {ks : List JobA} {aJ : Option Addr} {cJ : Nat} (h : Job1 d u js c X ks aJ cJ) (hb : Below u.heap.size u u') : Job1 d u' js c X ks aJ cJ := fun q => ⟨(h q).val, (h q).ops, ((h q).own.below hb).widen (Nat.le_refl _) hb.size (Nat.le_refl _)⟩
theorem ownI_kind {w : World} {lo hi : Nat} {a : Option Addr} {c : Nat} {xs : List Int} (h : OwnI w lo hi a c xs) {k : Nat} (hk : (Value.slice a xs.length c).ownBlock = some k) : ∃ cur, w.heap[k]? = some (.cells cur 3 (0, 0)) := ownsRowJ_at h.1 hk
theorem ownJ_kind {w : World} {lo hi : Nat} {a : Option Addr} {c : Nat} {js : List JobA} (h : OwnJ w lo hi a c js) {k : Nat} (hk : k ∈ blocksJ a c js) : ∃ cur t, w.heap[k]? = some (.cells cur t (0, 0)) ∧ (t = 61 ∨ t = 73) := by
 rcases List.mem_append.1 hk with hk | hk
 ·obtain ⟨cur, hc⟩ := ownsRowJ_at h.row (Option.mem_toList.1 hk)
  exact ⟨cur, _, hc, .inl rfl⟩
 ·obtain ⟨r, hr, hk⟩ := List.mem_flatMap.1 hk
  obtain ⟨cur, hc⟩ := ownsRowJ_at (h.each r hr).1 (Option.mem_toList.1 hk)
  exact ⟨cur, _, hc, .inr rfl⟩
theorem job_int {w : World} {lo hi l u : Nat} {a b : Option Addr} {c d : Nat} {js : List JobA} {xs : List Int} (h : OwnJ w lo hi a c js) (g : OwnI w l u b d xs) {k : Nat} (hk : k ∈ blocksJ a c js) (hk2 : (Value.slice b xs.length d).ownBlock = some k) : False := by
 obtain ⟨cur, t, hc, ht⟩ := ownJ_kind h hk
 obtain ⟨cur2, hc2⟩ := ownI_kind g hk2
 rw [hc] at hc2
 simp only [Option.some.injEq, Obj.cells.injEq] at hc2
 rcases ht with rfl | rfl
 ·have := hc2.2.1; cases this
 ·have := hc2.2.1; cases this
theorem sch_own {d u : World} {js ks : List JobA} {X2 X4 X6 X8 X10 : Value} {aJ : Option Addr} {cJ n A4 A6 A8 A10 : Nat} (hj : JobI d u js X2 ks aJ cJ) (h4 : Row1 d u n true X4 A4) (h6 : Row1 d u n true X6 A6) (h8 : Row1 d u n true X8 A8) (h10 : Row1 d u n true X10 A10)
  (n46 : A4 ≠ A6) (n48 : A4 ≠ A8) (n410 : A4 ≠ A10) (n68 : A6 ≠ A8) (n610 : A6 ≠ A10) (n810 : A8 ≠ A10) :
  SchA.own u d.heap.size u.heap.size ⟨newE, ks, aJ, cJ, n, some ⟨A4, 0, none⟩, n, some ⟨A6, 0, none⟩, n, some ⟨A8, 0, none⟩, n, some ⟨A10, 0, none⟩, n⟩ := by
 obtain ⟨_, o4, g4, t4⟩ := h4 rfl
 obtain ⟨_, o6, g6, t6⟩ := h6 rfl
 obtain ⟨_, o8, g8, t8⟩ := h8 rfl
 obtain ⟨_, o10, g10, t10⟩ := h10 rfl
 have rb : ∀ (A : Nat) k, k ∈ rowB (some ⟨A, 0, none⟩) n n → k = A := fun A k hk => by
  have := Option.mem_toList.1 hk
  simp [Value.ownBlock] at this
  exact this.symm
 have rn : ∀ A : Nat, (rowB (some ⟨A, 0, none⟩) n n).Nodup := fun A => by unfold rowB; cases (Value.slice (some ⟨A, 0, none⟩) n n).ownBlock <;> simp
 have jx : ∀ {A k : Nat}, OwnI u A (A + 1) (some ⟨A, 0, none⟩) n (zerosI n) → k ∈ blocksJ aJ cJ ks → k ∈ rowB (some ⟨A, 0, none⟩) n n → False := fun o hk hk2 => job_int hj.own o hk (by rw [zerosI_len]; exact Option.mem_toList.1 hk2)
 refine ⟨⟨hj.own, o4.widen g4 t4 (Nat.le_refl _), o6.widen g6 t6 (Nat.le_refl _), o8.widen g8 t8 (Nat.le_refl _), o10.widen g10 t10 (Nat.le_refl _)⟩, ?_⟩
 simp only [SchA.blocks, SchA.rows, List.nodup_append, List.mem_append]
 refine ⟨hj.own.apart, ⟨rn A4, ⟨rn A6, ⟨rn A8, rn A10, fun x hx y hy e => ?_⟩, fun x hx y hy e => ?_⟩, fun x hx y hy e => ?_⟩, fun x hx y hy e => ?_⟩
 ·have := rb _ _ hx; have := rb _ _ hy; omega
 ·have := rb _ _ hx
  rcases hy with hy | hy <;> (have := rb _ _ hy; omega)
 ·have := rb _ _ hx
  rcases hy with hy | hy | hy <;> (have := rb _ _ hy; omega)
 ·subst e
  rcases hy with hy | hy | hy | hy
  ·exact jx o4 hx hy
  ·exact jx o6 hx hy
  ·exact jx o8 hx hy
  ·exact jx o10 hx hy
end Go.Proofs.Ytgnkplbefclpgaa
namespace Go.Proofs.Ytgnkplbefclpgaa
open Go.RowKit
def opB (o : OpV) : Bool := if o.kd = 4 then (o.oid == 0 && o.num == 0) else (inB o.kd 1 3 && (inB o.oid 1 31 && inB o.num (-1000) 1000))
def opsB (l : List OpV) : Bool := decide (l.length ≤ 6) && l.all opB
def jobsB (L : List (List OpV)) : Bool := decide (L.length ≤ 4) && L.all opsB
theorem opsB_long {l : List OpV} (h : ¬ l.length ≤ 6) : opsB l = false := by simp [opsB, h]
theorem opsB_hit {l : List OpV} {k : Nat} (h : k < l.length) (h1 : opB (l.getD k zeroQ) = false) : opsB l = false := by rw [opsB, all_hit h h1, Bool.and_false]
theorem opsB_end {l : List OpV} {k : Nat} (h : ¬ k < l.length) (h0 : (l.take k).all opB = true) (hl : l.length ≤ 6) : opsB l = true := by rw [opsB, all_end h h0, Bool.and_true]; exact decide_eq_true hl
theorem jobsB_long {L : List (List OpV)} (h : ¬ L.length ≤ 4) : jobsB L = false := by simp [jobsB, h]
theorem jobsB_hit {L : List (List OpV)} {k : Nat} (h : k < L.length) (h1 : opsB (L.getD k []) = false) : jobsB L = false := by rw [jobsB, all_hit h h1, Bool.and_false]
theorem jobsB_end {L : List (List OpV)} {k : Nat} (h : ¬ k < L.length) (h0 : (L.take k).all opsB = true) (hl : L.length ≤ 4) : jobsB L = true := by rw [jobsB, all_end h h0, Bool.and_true]; exact decide_eq_true hl
theorem JobsShort.of_ops {js ks : List JobA} {n : Nat} (h : JobsShort js n) (he : opsJ ks = opsJ js) : JobsShort ks n := by
 refine ⟨by rw [← opsJ_len, he, opsJ_len]; exact h.len, fun j hj => ?_⟩
 have h1 : j.ops ∈ opsJ js := by rw [← he]; exact List.mem_map_of_mem hj
 obtain ⟨i, hi, e⟩ := List.mem_map.1 h1
 rw [← e]
 exact h.each i hi
theorem JobsShort.mono {js : List JobA} {n m : Nat} (h : JobsShort js n) (hm : n ≤ m) : JobsShort js m := ⟨Nat.le_trans h.len hm, fun j hj => Nat.le_trans (h.each j hj) hm⟩
end Go.Proofs.Ytgnkplbefclpgaa