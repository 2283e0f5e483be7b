/- Several texts in one, in their order. -/
import Derived.Test.YtoboickdkednkabPEngineNewx14
import Derived.Test.YtoboickdkednkabPEngineNewx12
import Derived.Deep.MidRow
import Derived.Laws.Tables
import Derived.Test.YtoboickdkednkabPEngineNewx9
import Derived.Test.YtoboickdkednkabPEngineNewx4
import Derived.Test.YtoboickdkednkabPEngineNewx8
import Derived.Test.YtoboickdkednkabPEngineNewx11
import Derived.Test.YtoboickdkednkabPEngineNewx7
import Derived.Deep.RegionHeld3
/- A seat made by a literal. -/
namespace Go.Proofs.Ytoboickdkednkab
open Go.RowKit

end Go.Proofs.Ytoboickdkednkab

/- An engine with nothing in it: the walks of spec.EngineNew and impl.EngineNew; an engine stored into a box, loaded from one. -/
namespace Go.Proofs.Ytoboickdkednkab
open Go.RowKit

def EngA.withNext (e : EngA) (n : Int) : EngA := { e with next := n }
def newE : EngA := zeroE.withNext 1
set_option maxHeartbeats 1000000 in
set_option maxRecDepth 100000 in
theorem alloc_eng {w : World} {ops : Array Oper} {rest : List Oper} {dst : Option Nat} {ty : TypeId} {pos : String} {aft : Array Edge} {act : Act} {Q : Exit → Act → World → Prop}
    (h : wpList Try.prog ops Q rest (act.put dst (.pointer (some ⟨w.heap.size, 0, none⟩))) (w.alloc (.cells zeroE.cells.toArray TE))) :
    wpList Try.prog ops Q ({ dst := dst, op := .alloc 40, type := ty, pos := pos, after := aft, guard := none } :: rest) act w := by
  refine wpList_plain rfl fun K hK => ?_
  have hz := Try.zeroEng
  cases hi : Try.prog.info? 40 with
  | none => rw [hi] at hz; cases hz
  | some inf =>
    rw [hi] at hz
    have hz' : inf.zero = some (.agg zeroE.cells.toArray) := by simpa using hz
    obtain ⟨cs, hcs⟩ : ∃ cs, zeroE.cells = cs := ⟨_, rfl⟩
    rw [hcs] at hz' h
    unfold Oper.wp execOp
    have e1 : (zeroValue 40).run Try.prog w = .ok (.agg cs.toArray) w := by simp [zeroValue, typeInfo, hi, hz']
    have e2 : (Instr.alloc 40 true (.tuple #[])).run Try.prog w = .ok (.pointer (some ⟨w.heap.size, 0, none⟩)) (w.alloc (.cells cs.toArray TE)) := by
      unfold Instr.alloc
      simp only [Sem.run_bind, e1, Result.andThen_ok]
      simp [newVar, go_sem]
    simp only [Sem.run_bind, e2, Result.andThen_ok, Sem.run_pure]
    exact hK _ _ h
set_option maxHeartbeats 1000000 in
set_option maxRecDepth 100000 in
theorem run_buildE (w : World) : (Instr.build 40 #[(5, Value.int .i64 1)]).run Try.prog w = .ok (.agg newE.cells.toArray) w := run_build w _ _ _ (by kernel_rfl)
set_option maxHeartbeats 1000000 in
set_option maxRecDepth 100000 in
theorem build_engine {w : World} {ops : Array Oper} {rest : List Oper} {dst : Option Nat} {ty : TypeId} {pos : String} {aft : Array Edge} {act : Act} {Q : Exit → Act → World → Prop}
    (h : wpList Try.prog ops Q rest (act.put dst (.agg newE.cells.toArray)) w) :
    wpList Try.prog ops Q ({ dst := dst, op := .build 40 #[(5, .const (.int .i64 1))], type := ty, pos := pos, after := aft, guard := none } :: rest) act w := by
  refine wpList_plain rfl fun K hK => ?_
  unfold Oper.wp execOp
  simp only [List.map_toArray, List.map_cons, List.map_nil]
  have ec : act.eval (.const (.int .i64 1)) = .int .i64 1 := rfl
  rw [ec]
  simp only [Sem.run_bind, run_buildE w, Result.andThen_ok, Sem.run_pure]
  exact hK _ _ h
theorem eng_info {e : EngA} (h : e.shape) : (Try.prog.info? 40).map (·.size) = some e.cells.length := by rw [EngA.cells_len h]; exact Try.infoEng
theorem oneE (e : EngA) : ∀ v ∈ e.cells, v.oneCell' = true := by
  intro v hv
  simp only [EngA.cells, List.mem_append] at hv
  rcases hv with hv | hv
  · obtain ⟨p, _, hp⟩ := List.mem_flatMap.1 hv
    exact oneP p v hp
  · simp only [EngA.tail, List.mem_cons, List.not_mem_nil, or_false] at hv
    rcases hv with rfl | rfl | rfl | rfl | rfl | rfl | rfl | rfl <;> rfl
theorem zeroE_shape : zeroE.shape := ⟨rfl, fun p hp => by
  simp only [zeroE, List.mem_cons, List.not_mem_nil, or_false] at hp
  have : p = zeroP := by rcases hp with h | h | h | h | h | h | h | h <;> exact h
  rw [this]; rfl⟩
theorem newE_shape : newE.shape := ⟨zeroE_shape.eight, zeroE_shape.four⟩
/-- An engine stored into a box. -/
theorem eng_out {w : World} {C : Nat} {q old : EngA} (hq : q.shape) (ho : old.shape) (bC : Box w C old.cells TE) :
    ∃ WF, Hid (w.setCells C 0 q.cells.toArray.toList = WF) ∧ Within C (C + 1) w WF ∧ WF.heap.size = w.heap.size ∧ Hid (w.there C 0 q.cells.toArray.size) ∧ Box WF C q.cells TE := by
  obtain ⟨WF, hWF, bF, hwF, hsF⟩ := range_fill [] old.cells q.cells [] (by simpa using bC) (by rw [EngA.cells_len hq, EngA.cells_len ho])
  refine ⟨WF, hWF, hwF, hsF, bC.there 0 _ (by rw [List.size_toArray, EngA.cells_len hq, EngA.cells_len ho]; omega), by simpa using bF⟩
theorem eng_load {w : World} {C : Nat} {q : EngA} (hq : q.shape) (b : Box w C q.cells TE) : (loadVar 40 ⟨C, 0, none⟩).run Try.prog w = .ok (.agg q.cells.toArray) w :=
  run_loadVar_mid (P := Try.prog) w C 0 40 q.cells _ (Box.range [] q.cells [] (by simpa using b)) Try.underlying40 rfl (eng_info hq)

set_option maxHeartbeats 4000000 in
set_option maxRecDepth 100000 in
theorem engineNew_any (w : World) : Calls Try.prog 4 #[] w fun r w' => r = .returned (.agg newE.cells.toArray) ∧ Below w.heap.size w w' := by
  obtain ⟨W, hW, b0, hbW, hsW⟩ := boxes1 w zeroE.cells TE
  obtain ⟨W1, hW1, hw1, hs1, HT1, b1⟩ := eng_out newE_shape zeroE_shape b0
  have N1 : Below w.heap.size w W1 := hbW.trans (hw1.below (Nat.le_refl _) (by omega))
  have HLD : Hid ((loadVar 40 ⟨w.heap.size, 0, none⟩).run Try.prog W1 = .ok (.agg newE.cells.toArray) W1) := eng_load newE_shape b1
  have HI1 : Hid ((Try.prog.info? 40).map (·.size) = some newE.cells.toArray.size) := eng_info newE_shape
  have HO := all_oneCell_toArray (oneE newE)
  clear hsW hw1 hs1 b0 b1
  obtain ⟨q, hq⟩ : ∃ q, Hid (newE = q) := ⟨_, rfl⟩
  obtain ⟨z, hz⟩ : ∃ z, Hid (zeroE = z) := ⟨_, rfl⟩
  rw [hq.out] at hW1 HT1 HLD HI1 HO ⊢
  rw [hz.out] at hW
  go_enter Try.func4, Try.ntmps4
  go_wp2_with (first | (guard_target = wpList _ _ _ (Oper.mk (some 0) _ _ _ _ _ :: _) _ _; refine alloc_eng ?_; rw [hz.out, hW.out]) | (guard_target = wpList _ _ _ (Oper.mk (some 1) _ _ _ _ _ :: _) _ _; refine build_engine ?_; rw [hq.out]) | (guard_target = wpList _ _ _ (Oper.mk none (Op.store _ (Operand.tmp 0) _) _ _ _ _ :: _) _ _; refine wpList_store_mid rfl 40 (.tmp 0) (.tmp 1) rfl w.heap.size 0 q.cells.toArray rfl rfl HT1.out HI1.out HO ?_; rw [hW1.out]) | fail)
  exact bodyPost_ret (v := .agg q.cells.toArray) (results_one Try.results4 rfl HLD.out) rfl ⟨rfl, N1⟩
set_option maxHeartbeats 4000000 in
set_option maxRecDepth 100000 in
theorem implEngineNew_any (w : World) : Calls Try.prog 5 #[] w fun r w' => r = .returned (.agg newE.cells.toArray) ∧ Below w.heap.size w w' := by
  obtain ⟨W, hW, b0, hbW, hsW⟩ := boxes1 w zeroE.cells TE
  obtain ⟨W1, hW1, hw1, hs1, HT1, b1⟩ := eng_out newE_shape zeroE_shape b0
  have N1 : Below w.heap.size w W1 := hbW.trans (hw1.below (Nat.le_refl _) (by omega))
  have HLD : Hid ((loadVar 40 ⟨w.heap.size, 0, none⟩).run Try.prog W1 = .ok (.agg newE.cells.toArray) W1) := eng_load newE_shape b1
  have HI1 : Hid ((Try.prog.info? 40).map (·.size) = some newE.cells.toArray.size) := eng_info newE_shape
  have HO := all_oneCell_toArray (oneE newE)
  clear hsW hw1 hs1 b0 b1
  obtain ⟨q, hq⟩ : ∃ q, Hid (newE = q) := ⟨_, rfl⟩
  obtain ⟨z, hz⟩ : ∃ z, Hid (zeroE = z) := ⟨_, rfl⟩
  rw [hq.out] at hW1 HT1 HLD HI1 HO ⊢
  rw [hz.out] at hW
  go_enter Try.func5, Try.ntmps5
  go_wp2_with (first | (guard_target = wpList _ _ _ (Oper.mk (some 0) _ _ _ _ _ :: _) _ _; refine alloc_eng ?_; rw [hz.out, hW.out]) | (guard_target = wpList _ _ _ (Oper.mk (some 1) _ _ _ _ _ :: _) _ _; refine build_engine ?_; rw [hq.out]) | (guard_target = wpList _ _ _ (Oper.mk none (Op.store _ (Operand.tmp 0) _) _ _ _ _ :: _) _ _; refine wpList_store_mid rfl 40 (.tmp 0) (.tmp 1) rfl w.heap.size 0 q.cells.toArray rfl rfl HT1.out HI1.out HO ?_; rw [hW1.out]) | fail)
  exact bodyPost_ret (v := .agg q.cells.toArray) (results_one Try.results5 rfl HLD.out) rfl ⟨rfl, N1⟩
theorem newE_blocks : newE.blocks = [] := rfl
theorem newE_own (w : World) : newE.own w 0 w.heap.size := by
  refine ⟨⟨fun s hs => ?_, List.nodup_nil⟩, ownSts_nil _ _ _ (Nat.le_refl _), ownRs_nil _ _ _ (Nat.le_refl _), ownL_nil _ _ _ (Nat.le_refl _), ownH_nil _ _ _ (Nat.le_refl _), List.nodup_nil⟩
  have h1 : ∀ p ∈ newE.disk, p = zeroP := fun p hp => by
    simp only [newE, EngA.withNext, zeroE, List.mem_cons, List.not_mem_nil, or_false] at hp
    rcases hp with h | h | h | h | h | h | h | h <;> exact h
  obtain ⟨p, hp, hs⟩ := List.mem_flatMap.1 hs
  rw [h1 p hp] at hs
  have h2 : s = zeroS := by simpa [zeroP] using hs
  rw [h2]
  exact zero_own _ _ _ (Nat.le_refl _)
end Go.Proofs.Ytoboickdkednkab

/- Arrays of eight pages: the walks of laws.eqPageA8, laws.markPageA8, laws.heldPageA8. -/
namespace Go.Proofs.Ytoboickdkednkab
open Go.RowKit

/-- Eight pages of four slots. -/
structure Disk8 (ps : List PageA) : Prop where
  eight : ps.length = 8
  four : ∀ p ∈ ps, p.ss.length = 4
theorem pageD_mem {ps : List PageA} {k : Nat} (h : k < ps.length) : ps.getD k zeroP ∈ ps := by simp [List.getD, h, List.getElem_mem]
theorem Disk8.at {ps : List PageA} (h : Disk8 ps) {k : Nat} (hk : k < 8) : (ps.getD k zeroP).ss.length = 4 := h.four _ (pageD_mem (by rw [h.eight]; exact hk))
def pgv (p : PageA) : Int × List SlotV := (p.lsn, p.ss.map (·.v))
def slots8 (ps : List PageA) : List SlotA := ps.flatMap (·.ss)
theorem page_in {w : World} {B : Nat} {t : TypeId} {ps : List PageA} (h : Disk8 ps) (b : Box w B (cellsPs ps) t) (k : Nat) (hk : k < 8) : w.rangeAt B (k * 17) (ps.getD k zeroP).cells := by
  have hk' : k < ps.length := by rw [h.eight]; exact hk
  have e := cellsPs_split ps k hk'
  have b' := b
  rw [e] at b'
  have := Box.range _ _ _ b'
  rw [cellsPs_len _ (fun p hp => h.four p (List.mem_of_mem_take hp)), List.length_take, Nat.min_eq_left (Nat.le_of_lt hk')] at this
  have e2 : ps.getD k zeroP = ps[k] := by simp [List.getD, hk']
  rw [e2]; exact this
theorem disk8_info {ps : List PageA} (h : Disk8 ps) : (Try.prog.info? 30).map (·.size) = some (cellsPs ps).length := by rw [cellsPs_len _ h.four, h.eight]; kernel_rfl
theorem pgv_at {ps ts : List PageA} (he : ts.map pgv = ps.map pgv) (k : Nat) (hk : k < ps.length) : pgv (ts.getD k zeroP) = pgv (ps.getD k zeroP) := by
  have hk' : k < ts.length := by have := congrArg List.length he; simp only [List.length_map] at this; omega
  have := congrArg (fun l => l[k]?) he
  simpa [List.getD, hk, hk'] using this
theorem page_infoP (p : PageA) (h : p.ss.length = 4) : (Try.prog.info? 29).map (·.size) = some p.cells.length := by rw [page_len _ h]; kernel_rfl

set_option maxHeartbeats 1000000 in
set_option maxRecDepth 100000 in
theorem eqPageA8_same (ps ts : List PageA) (hp : Disk8 ps) (ht : Disk8 ts) (he : ts.map pgv = ps.map pgv) (w : World) (hrp : ∀ p ∈ ps, ReadsS w p.ss) (hrt : ∀ p ∈ ts, ReadsS w p.ss) (hf : ∀ p ∈ ps, Fit p.ss) :
    Calls Try.prog 9 #[.agg (cellsPs ps).toArray, .agg (cellsPs ts).toArray] w fun e w' => e = .returned (.bool true) ∧ Below w.heap.size w w' := by
  obtain ⟨W, hW, b0, b1, hbW, hsW⟩ := boxes2 w (cellsPs ps) (cellsPs ts) 30 30
  go_enter Try.func9, Try.ntmps9
  go_wp2_with fail
  rw [hW.out]
  clear hW hsW
  go_loopw [5] (fun i wr => ∃ k : Nat, k ≤ 8 ∧ i = .int .i64 (k : Int) ∧ Below W.heap.size W wr) (fun i _ => 8 - (intOf i).toNat)
  case atStart => exact ⟨0, Nat.zero_le _, rfl, Below.refl _ _⟩
  case round =>
    obtain ⟨k, hk, rfl, hbr⟩ := hrel
    by_cases hlt : k < 8
    · have HR : Hid (∀ u, Below W.heap.size W u → u.rangeAt w.heap.size (k * 17) (ps.getD k zeroP).cells ∧ u.rangeAt (w.heap.size + 1) (k * 17) (ts.getD k zeroP).cells) := fun u hu => ⟨page_in hp (b0.below hu b0.lt) k hlt, page_in ht (b1.below hu b1.lt) k hlt⟩
      have HP4 := hp.at hlt
      have HT4 := ht.at hlt
      have hv := pgv_at he k (by rw [hp.eight]; exact hlt)
      have R1 := hrp _ (pageD_mem (k := k) (by rw [hp.eight]; exact hlt))
      have R2 := hrt _ (pageD_mem (k := k) (by rw [ht.eight]; exact hlt))
      have F1 := hf _ (pageD_mem (k := k) (by rw [hp.eight]; exact hlt))
      generalize ps.getD k zeroP = p at *
      generalize ts.getD k zeroP = t at *
      obtain ⟨n, ss⟩ := p
      obtain ⟨n', ts'⟩ := t
      simp only [pgv, Prod.mk.injEq] at hv
      obtain ⟨rfl, hv⟩ := hv
      have HV : Hid _ := hv
      clear hv
      have hi0 : (0 : Int) ≤ (k : Int) := by omega
      have hi8 : (k : Int) < 8 := by omega
      go_wp2_with fail
      have D0 : Below W.heap.size W wr.drew := hbr.trans ((Below.refl _ _).drew.mono hbr.size)
      refine wp_region_held_drew (S := fun u => u.rangeAt w.heap.size (k * 17) (PageA.cells ⟨n', ss⟩) ∧ u.rangeAt (w.heap.size + 1) (k * 17) (PageA.cells ⟨n', ts'⟩)) (by kernel_rfl) (HR.out _ D0) (fun hHeld => ?_)
      generalize wr.drew = d0 at *
      refine wpAnyH_take (i := 0) (v := .int .i64 (k : Int)) rfl (by kernel_rfl) (by kernel_rfl) (by kernel_rfl) (fun _ _ _ h => h) (Or.inl ⟨by rfl, ?_⟩) hHeld ?_
      · intro w' hSw
        go_simp <;> rfl
      try simp only [Act.put, List.getElem_toArray, List.getElem_cons_zero, List.setIfInBounds_toArray, List.set_cons_zero, List.set_cons_succ]
      refine wpAnyH_take (i := 1) (v := .pointer (some ⟨w.heap.size, k * 17, none⟩)) rfl (by kernel_rfl) (by kernel_rfl) (by kernel_rfl) (fun _ _ _ h => h) (Or.inl ⟨by rfl, ?_⟩) hHeld ?_
      · intro w' hSw
        go_simp <;> rfl
      try simp only [Act.put, List.getElem_toArray, List.getElem_cons_zero, List.getElem_cons_succ, List.setIfInBounds_toArray, List.set_cons_zero, List.set_cons_succ]
      refine wpAnyH_take (i := 2) rfl (by kernel_rfl) (by kernel_rfl) (by kernel_rfl) (fun _ _ _ h => h) (yieldsIf_load_mid (by rfl) _ _ rfl _ _ rfl (PageA.cells ⟨n', ss⟩) _ (fun _ h => h.1) Try.underlying29 rfl (page_infoP _ HP4)) hHeld ?_
      try simp only [Act.put, List.getElem_toArray, List.getElem_cons_zero, List.getElem_cons_succ, List.setIfInBounds_toArray, List.set_cons_zero, List.set_cons_succ]
      refine wpAnyH_take (i := 3) (v := .int .i64 (k : Int)) rfl (by kernel_rfl) (by kernel_rfl) (by kernel_rfl) (fun _ _ _ h => h) (Or.inl ⟨by rfl, ?_⟩) hHeld ?_
      · intro w' hSw
        go_simp <;> rfl
      try simp only [Act.put, List.getElem_toArray, List.getElem_cons_zero, List.getElem_cons_succ, List.setIfInBounds_toArray, List.set_cons_zero, List.set_cons_succ]
      refine wpAnyH_take (i := 4) (v := .pointer (some ⟨w.heap.size + 1, k * 17, none⟩)) rfl (by kernel_rfl) (by kernel_rfl) (by kernel_rfl) (fun _ _ _ h => h) (Or.inl ⟨by rfl, ?_⟩) hHeld ?_
      · intro w' hSw
        go_simp <;> rfl
      try simp only [Act.put, List.getElem_toArray, List.getElem_cons_zero, List.getElem_cons_succ, List.setIfInBounds_toArray, List.set_cons_zero, List.set_cons_succ]
      refine wpAnyH_take (i := 5) rfl (by kernel_rfl) (by kernel_rfl) (by kernel_rfl) (fun _ _ _ h => h) (yieldsIf_load_mid (by rfl) _ _ rfl _ _ rfl (PageA.cells ⟨n', ts'⟩) _ (fun _ h => h.2) Try.underlying29 rfl (page_infoP _ HT4)) hHeld ?_
      try simp only [Act.put, List.getElem_toArray, List.getElem_cons_zero, List.getElem_cons_succ, List.setIfInBounds_toArray, List.set_cons_zero, List.set_cons_succ]
      refine wpAnyH_ready (rs := [6]) (by kernel_rfl) (by simp) ?_
      refine AllReadyH.cons rfl (fun K hK => ?_) AllReadyH.nil
      go_simp
      refine (eqPage_same n' ss ts' HP4 HV.out d0 (R1.below (hbW.trans (D0.mono hbW.size))) (R2.below (hbW.trans (D0.mono hbW.size))) F1).mono ?_
      rintro e d1 ⟨rfl, hb1⟩
      have D1 : Below W.heap.size W d1 := D0.trans (hb1.mono D0.size)
      refine hK.out _ _ (HR.out _ D1) (fun hHeld => ?_)
      clear hK K hb1
      try simp only [Act.put, List.getElem_toArray, List.getElem_cons_zero, List.getElem_cons_succ, List.setIfInBounds_toArray, List.set_cons_zero, List.set_cons_succ]
      refine wpAnyH_take (i := 7) (v := .bool false) rfl (by kernel_rfl) (by kernel_rfl) (by kernel_rfl) (fun _ _ _ h => h) (Or.inl ⟨by rfl, ?_⟩) hHeld ?_
      · intro w' hSw
        go_simp <;> rfl
      try simp only [Act.put, List.getElem_toArray, List.getElem_cons_zero, List.getElem_cons_succ, List.setIfInBounds_toArray, List.set_cons_zero, List.set_cons_succ]
      refine wpAnyH_done (by kernel_rfl) ?_ _
      clear hHeld
      go_wp2_with fail
      go_roundw
      case rel => exact ⟨k + 1, by omega, by go_num, D1⟩
      case measure => simp [intOf]; omega
    · obtain rfl : k = 8 := by omega
      have hkk : ¬ ((8 : Nat) : Int) < 8 := by omega
      have HE : Hid (Below w.heap.size w wr) := hbW.trans (hbr.mono hbW.size)
      go_wp2
      go_ret
      exact ⟨rfl, HE.out⟩

theorem OwnS.part {w : World} {lo hi : Nat} {A M B : List SlotA} (h : OwnS w lo hi (A ++ (M ++ B))) : OwnS w lo hi M := by
  refine ⟨fun s hs => h.each s (by simp [hs]), ?_⟩
  have := h.apart
  simp only [List.flatMap_append, List.nodup_append] at this
  exact this.2.1.1
/-- A part of the slots became another, of the same blocks. -/
theorem OwnS.swap {w w' : World} {lo hi : Nat} {A M N B : List SlotA} (h : OwnS w lo hi (A ++ (M ++ B))) (ht : Touch (M.flatMap SlotA.blocks) w w') (ho : OwnS w' lo hi N) (hb : N.flatMap SlotA.blocks = M.flatMap SlotA.blocks) : OwnS w' lo hi (A ++ (N ++ B)) := by
  have ha := h.apart
  simp only [List.flatMap_append, List.nodup_append, List.mem_append] at ha
  obtain ⟨a1, ⟨a2, a3, a4⟩, a5⟩ := ha
  refine ⟨fun s hs => ?_, ?_⟩
  · rcases List.mem_append.1 hs with hs | hs
    · exact SlotA.touch (h.each s (by simp [hs])) ht (fun k hk hk' => a5 k (List.mem_flatMap.2 ⟨s, hs, hk⟩) k (.inl hk') rfl)
    · rcases List.mem_append.1 hs with hs | hs
      · exact ho.each s hs
      · exact SlotA.touch (h.each s (by simp [hs])) ht (fun k hk hk' => a4 k hk' k (List.mem_flatMap.2 ⟨s, hs, hk⟩) rfl)
  · have := h.apart
    simp only [List.flatMap_append, hb] at this ⊢
    exact this
theorem markSs_blocks (ss : List SlotA) : ∀ k, (markSs ss k).flatMap SlotA.blocks = ss.flatMap SlotA.blocks := by
  induction ss with
  | nil => intro k; rfl
  | cons s r ih => intro k; simp only [markSs, List.flatMap_cons, mark_blocks, ih]
theorem countS_app (A B : List SlotA) : countS (A ++ B) = countS A + countS B := by
  induction A with
  | nil => simp [countS]
  | cons s r ih => simp only [List.cons_append, countS, ih]; omega
theorem slots8_app (a b : List PageA) : slots8 (a ++ b) = slots8 a ++ slots8 b := by simp only [slots8, List.flatMap_append]
theorem slots8_cons (p : PageA) (b : List PageA) : slots8 (p :: b) = p.ss ++ slots8 b := by simp only [slots8, List.flatMap_cons]
theorem pageD_eq {ps : List PageA} {k : Nat} (h : k < ps.length) : ps[k] = ps.getD k zeroP := by simp [List.getD, h]
theorem slots_split (ps : List PageA) (k : Nat) (hk : k < ps.length) : slots8 ps = slots8 (ps.take k) ++ ((ps.getD k zeroP).ss ++ slots8 (ps.drop (k + 1))) := by
  have e : ps = ps.take k ++ ps.getD k zeroP :: ps.drop (k + 1) := by
    conv => lhs; rw [← List.take_append_drop k ps, List.drop_eq_getElem_cons hk]
    simp [List.getD, hk]
  conv => lhs; rw [e]
  simp only [slots8, List.flatMap_append, List.flatMap_cons]
theorem slots_next (ps : List PageA) (k : Nat) (hk : k < ps.length) : slots8 (ps.take (k + 1)) = slots8 (ps.take k) ++ (ps.getD k zeroP).ss := by
  rw [List.take_succ_eq_append_getElem hk, slots8_app, slots8_cons, pageD_eq hk]
  simp only [slots8, List.flatMap_nil, List.append_nil]
theorem countS_take_le (ps : List PageA) (k : Nat) : countS (slots8 (ps.take k)) ≤ countS (slots8 ps) := by
  conv => rhs; rw [← List.take_append_drop k ps, slots8_app, countS_app]
  omega

set_option maxHeartbeats 1000000 in
set_option maxRecDepth 100000 in
theorem markPageA8_touch (ps : List PageA) (hp : Disk8 ps) (lo hi : Nat) (k0 : Int) (w : World) (ho : OwnS w lo hi (slots8 ps)) (hf : ∀ p ∈ ps, Fit p.ss) (h0 : 0 ≤ k0) (hk : k0 + countS (slots8 ps) ≤ 10995116277760) (hhi : hi ≤ w.heap.size) :
    Calls Try.prog 14 #[.agg (cellsPs ps).toArray, .int .i64 k0] w fun e w' => e = .returned (.int .i64 (k0 + countS (slots8 ps))) ∧ OwnS w' lo hi (markSs (slots8 ps) k0) ∧ Touch ((slots8 ps).flatMap SlotA.blocks) w w' := by
  obtain ⟨W, hW, b0, hbW, hsW⟩ := boxes1 w (cellsPs ps) 30
  have hs0 : w.heap.size < W.heap.size := by omega
  have hbl := ho.blocks_lt
  go_enter Try.func14, Try.ntmps14
  go_wp2_with fail
  rw [hW.out]
  clear hW hsW
  go_loopw [1, 5] (fun kk i wr => ∃ k : Nat, k ≤ 8 ∧ i = .int .i64 (k : Int) ∧ kk = .int .i64 (k0 + countS (slots8 (ps.take k))) ∧ OwnS wr lo hi (markSs (slots8 (ps.take k)) k0 ++ slots8 (ps.drop k)) ∧ Touch ((slots8 ps).flatMap SlotA.blocks) W wr) (fun _ i _ => 8 - (intOf i).toNat)
  case atStart => exact ⟨0, Nat.zero_le _, rfl, by simp [slots8, countS], by simpa [slots8, markSs] using ho.below hbW, Touch.refl _ _⟩
  case round =>
    obtain ⟨k, hk8, rfl, rfl, hor, htr⟩ := hrel
    by_cases hlt : k < 8
    · have hkl : k < ps.length := by rw [hp.eight]; exact hlt
      have hwB : w.heap.size ∉ (slots8 ps).flatMap SlotA.blocks := fun h => by have := (hbl _ h).2; omega
      have r1 := page_in hp (b0.touch htr hwB) k hlt
      have HP4 := hp.at hlt
      have F1 := hf _ (pageD_mem (k := k) hkl)
      have e1 : slots8 (ps.drop k) = (ps.getD k zeroP).ss ++ slots8 (ps.drop (k + 1)) := by
        rw [List.drop_eq_getElem_cons hkl, slots8_cons, pageD_eq hkl]
      rw [e1] at hor
      have e2 := slots_next ps k hkl
      have HC : Hid (countS (slots8 (ps.take (k + 1))) = countS (slots8 (ps.take k)) + countS (ps.getD k zeroP).ss) := by rw [Hid, e2, countS_app]
      have HM : Hid (markSs (slots8 (ps.take (k + 1))) k0 = markSs (slots8 (ps.take k)) k0 ++ markSs (ps.getD k zeroP).ss (k0 + countS (slots8 (ps.take k)))) := by rw [Hid, e2, markSs_app]
      have HB : Hid (∀ j ∈ (ps.getD k zeroP).ss.flatMap SlotA.blocks, j ∈ (slots8 ps).flatMap SlotA.blocks) := fun j hj => by
        rw [slots_split ps k hkl]
        simp only [List.flatMap_append, List.mem_append]
        exact .inr (.inl hj)
      have hcl := countS_take_le ps k
      have C := markPage_touch (ps.getD k zeroP) HP4 lo hi (k0 + countS (slots8 (ps.take k))) wr hor.part F1 (by omega) (by omega) (by have := htr.size; omega)
      clear e1 e2
      generalize ps.getD k zeroP = p at *
      have HIp := page_infoP p HP4
      have hi0 : (0 : Int) ≤ (k : Int) := by omega
      have hi8 : (k : Int) < 8 := by omega
      generalize hcc : countS (slots8 (ps.take k)) = cc at *
      go_wp2_with (first | (guard_target = wpList _ _ _ (Oper.mk (some 12) _ _ _ _ _ :: _) _ _; refine wpList_load_mid rfl 29 (.tmp 11) rfl w.heap.size (k * 17) rfl p.cells _ r1 Try.underlying29 rfl HIp ?_) | fail)
      refine C.mono ?_
      clear C
      rintro e w1 ⟨rfl, ho1, ht1⟩
      have HOK : Hid (OwnS w1 lo hi (markSs (slots8 (ps.take (k + 1))) k0 ++ slots8 (ps.drop (k + 1)))) := by
        rw [Hid, HM.out, List.append_assoc]
        exact hor.swap ht1 ho1 (markSs_blocks _ _)
      have HTK : Hid (Touch ((slots8 ps).flatMap SlotA.blocks) W w1) := htr.trans (ht1.mono HB.out)
      have HCC : Hid (k0 + (cc : Int) + (countS p.ss : Int) = k0 + (countS (slots8 (ps.take (k + 1))) : Int)) := by have := HC.out; rw [Hid]; omega
      clear hor htr ho1 ht1 HC HM
      go_wp2_with fail
      go_roundw
      case rel => exact ⟨k + 1, by omega, by go_num, by rw [HCC.out], HOK.out, HTK.out⟩
      case measure => simp [intOf]; omega
    · obtain rfl : k = 8 := by omega
      have hkk : ¬ ((8 : Nat) : Int) < 8 := by omega
      have e1 : ps.take 8 = ps := by rw [← hp.eight, List.take_length]
      have e2 : ps.drop 8 = [] := by rw [← hp.eight, List.drop_length]
      rw [e1, e2] at hor
      have HE : Hid (OwnS wr lo hi (markSs (slots8 ps) k0) ∧ Touch ((slots8 ps).flatMap SlotA.blocks) w wr) := ⟨by simpa [slots8] using hor, (Touch.of_below hbW).trans htr⟩
      have HT : Hid (k0 + (countS (slots8 (ps.take 8)) : Int) = k0 + countS (slots8 ps)) := by rw [Hid, e1]
      clear e1 e2
      go_wp2
      go_ret
      exact ⟨ret_int HT.out, HE.out.1, HE.out.2⟩

set_option maxHeartbeats 1000000 in
set_option maxRecDepth 100000 in
theorem heldPageA8_any (ps : List PageA) (hp : Disk8 ps) (lo hi : Nat) (k0 : Int) (w : World) (ho : OwnS w lo hi (markSs (slots8 ps) k0)) (hf : ∀ p ∈ ps, Fit p.ss) (h0 : 0 ≤ k0) (hk : k0 + countS (slots8 ps) ≤ 10995116277760) :
    Calls Try.prog 19 #[.agg (cellsPs ps).toArray, .int .i64 k0] w fun e w' => e = .returned (.int .i64 (k0 + countS (slots8 ps))) ∧ Below w.heap.size w w' := by
  obtain ⟨W, hW, b0, hbW, hsW⟩ := boxes1 w (cellsPs ps) 30
  go_enter Try.func19, Try.ntmps19
  go_wp2_with fail
  rw [hW.out]
  clear hW hsW
  go_loopw [1, 5] (fun kk i wr => ∃ k : Nat, k ≤ 8 ∧ i = .int .i64 (k : Int) ∧ kk = .int .i64 (k0 + countS (slots8 (ps.take k))) ∧ Below W.heap.size W wr) (fun _ i _ => 8 - (intOf i).toNat)
  case atStart => exact ⟨0, Nat.zero_le _, rfl, by simp [slots8, countS], Below.refl _ _⟩
  case round =>
    obtain ⟨k, hk8, rfl, rfl, hbr⟩ := hrel
    by_cases hlt : k < 8
    · have hkl : k < ps.length := by rw [hp.eight]; exact hlt
      have r1 := page_in hp (b0.below hbr b0.lt) k hlt
      have HP4 := hp.at hlt
      have F1 := hf _ (pageD_mem (k := k) hkl)
      have hor : OwnS wr lo hi (markSs (slots8 ps) k0) := ho.below (hbW.trans (hbr.mono hbW.size))
      rw [slots_split ps k hkl, markSs_app, markSs_app] at hor
      have e2 := slots_next ps k hkl
      have HC : Hid (countS (slots8 (ps.take (k + 1))) = countS (slots8 (ps.take k)) + countS (ps.getD k zeroP).ss) := by rw [Hid, e2, countS_app]
      have hcl := countS_take_le ps k
      have C := heldPage_any (ps.getD k zeroP) HP4 lo hi (k0 + countS (slots8 (ps.take k))) wr hor.part F1 (by omega) (by omega)
      clear e2 hor
      generalize ps.getD k zeroP = p at *
      have HIp := page_infoP p HP4
      have hi0 : (0 : Int) ≤ (k : Int) := by omega
      have hi8 : (k : Int) < 8 := by omega
      generalize hcc : countS (slots8 (ps.take k)) = cc at *
      go_wp2_with (first | (guard_target = wpList _ _ _ (Oper.mk (some 12) _ _ _ _ _ :: _) _ _; refine wpList_load_mid rfl 29 (.tmp 11) rfl w.heap.size (k * 17) rfl p.cells _ r1 Try.underlying29 rfl HIp ?_) | fail)
      refine C.mono ?_
      clear C
      rintro e w1 ⟨rfl, hb1⟩
      have HBK : Hid (Below W.heap.size W w1) := hbr.trans (hb1.mono hbr.size)
      have HCC : Hid (k0 + (cc : Int) + (countS p.ss : Int) = k0 + (countS (slots8 (ps.take (k + 1))) : Int)) := by have := HC.out; rw [Hid]; omega
      have hnn : ¬ (k0 + (cc : Int) + (countS p.ss : Int)) < 0 := by omega
      clear hbr hb1 HC r1
      go_wp2_with fail
      go_roundw
      case rel => exact ⟨k + 1, by omega, by go_num, by rw [HCC.out], HBK.out⟩
      case measure => simp [intOf]; omega
    · obtain rfl : k = 8 := by omega
      have hkk : ¬ ((8 : Nat) : Int) < 8 := by omega
      have e1 : ps.take 8 = ps := by rw [← hp.eight, List.take_length]
      have HT : Hid (k0 + (countS (slots8 (ps.take 8)) : Int) = k0 + countS (slots8 ps)) := by rw [Hid, e1]
      have HE : Hid (Below w.heap.size w wr) := hbW.trans (hbr.mono hbW.size)
      clear e1
      go_wp2
      go_ret
      exact ⟨ret_int HT.out, HE.out⟩
end Go.Proofs.Ytoboickdkednkab

/- Pools: what they are, what a walk reads and owns of them. -/
namespace Go.Proofs.Ytoboickdkednkab
open Go.RowKit

structure PoolV where
  seats : List SeatV
  hand : Int
/-- A pool, and where its row lies. -/
structure PoolA where
  seats : List SeatA
  hand : Int
  a : Option Addr
  c : Nat
def PoolA.v (l : PoolA) : PoolV := ⟨l.seats.map SeatA.v, l.hand⟩
def PoolA.cells (l : PoolA) : List Value := [.slice l.a l.seats.length l.c, .int .i64 l.hand]
def PoolA.reads (w : World) (l : PoolA) : Prop := ReadsSts w l.a l.seats
def PoolA.own (w : World) (lo hi : Nat) (l : PoolA) : Prop := OwnSts w lo hi l.a l.c l.seats
/-- A seat whose lists are short. -/
def SeatA.short (s : SeatA) (m : Nat) : Prop := ∀ x ∈ s.ss, x.v.o.ints.length ≤ m ∧ x.v.o.refs.length ≤ m
structure PoolA.short (l : PoolA) (m : Nat) : Prop where
  len : l.seats.length ≤ m
  each : ∀ r ∈ l.seats, r.short m
theorem PoolA.short.at {l : PoolA} {m : Nat} (h : l.short m) (k : Nat) (hk : k < l.seats.length) : (l.seats.getD k zeroSt).short m := h.each _ (seatD_mem _ k hk)
theorem mapSt_len {rs ts : List SeatA} (h : ts.map SeatA.v = rs.map SeatA.v) : ts.length = rs.length := by simpa using congrArg List.length h
theorem mapSt_at {rs ts : List SeatA} (h : ts.map SeatA.v = rs.map SeatA.v) (k : Nat) (hk : k < rs.length) : (ts.getD k zeroSt).v = (rs.getD k zeroSt).v := by
  have hk' : k < ts.length := by rw [mapSt_len h]; exact hk
  have := congrArg (fun x => x[k]?) h
  simpa [List.getD, hk, hk'] using this
end Go.Proofs.Ytoboickdkednkab

/- What the laws of pages share. -/
namespace Go.Proofs.Ytoboickdkednkab
open Go.RowKit

end Go.Proofs.Ytoboickdkednkab

/- The walks of laws.toSeat, szSeat, eqSeat. -/
namespace Go.Proofs.Ytoboickdkednkab
open Go.RowKit

theorem Try.infoPg (p : PageA) (h : p.ss.length = 4) : (Try.prog.info? 29).map (·.size) = some p.cells.length := by rw [page_len p h]; kernel_rfl
/-- The page of a seat that lies in a box. -/
theorem seat_page {w : World} {B : Nat} {t : TypeId} (s : SeatA) (b : Box w B s.cells t) : w.rangeAt B 1 s.page.cells := by
  rw [SeatA.cells_page] at b
  exact Box.range [.int .i64 s.no] s.page.cells [.bool s.dirty, .bool s.hot] b
set_option maxHeartbeats 1000000 in
set_option maxRecDepth 100000 in
theorem eqSeat_same (s t : SeatA) (he : t.v = s.v) (w : World) (hs : s.reads w) (ht : t.reads w) (hl : s.short 1099511627776) :
    Calls Try.prog 36 #[.agg s.cells.toArray, .agg t.cells.toArray] w fun e w' => e = .returned (.bool true) ∧ Below w.heap.size w w' := by
  obtain ⟨W, hW, b0, b1, hbW, hsW⟩ := boxes2 w s.cells t.cells 70 70
  have HEQ : Hid (t.no = s.no ∧ t.lsn = s.lsn ∧ t.ss.map (·.v) = s.ss.map (·.v) ∧ t.dirty = s.dirty ∧ t.hot = s.hot) := by
    simp only [SeatA.v, SeatV.mk.injEq] at he
    exact he
  have hrg0 : W.rangeAt w.heap.size 1 s.page.cells := seat_page s b0
  have hrg1 : W.rangeAt (w.heap.size + 1) 1 t.page.cells := seat_page t b1
  have HI0 := Try.infoPg s.page rfl
  have HI1 := Try.infoPg t.page rfl
  have C := eqPage_same s.lsn s.ss t.ss rfl HEQ.out.2.2.1 W (hs.below hbW) (ht.below hbW) hl
  have e1 : PageA.cells ⟨s.lsn, t.ss⟩ = t.page.cells := by rw [SeatA.page, HEQ.out.2.1]
  rw [e1] at C
  have c0 : W.cell? ⟨w.heap.size, 0, none⟩ = some (.int .i64 s.no) := b0.cell 0 _ rfl
  have c1 : W.cell? ⟨w.heap.size + 1, 0, none⟩ = some (.int .i64 s.no) := (b1.cell 0 _ rfl).trans (by rw [HEQ.out.1])
  have HC : Hid (∀ u, Below W.heap.size W u → u.cell? ⟨w.heap.size, 18, none⟩ = some (.bool s.dirty) ∧ u.cell? ⟨w.heap.size, 19, none⟩ = some (.bool s.hot) ∧ u.cell? ⟨w.heap.size + 1, 18, none⟩ = some (.bool s.dirty) ∧ u.cell? ⟨w.heap.size + 1, 19, none⟩ = some (.bool s.hot)) := fun u hu => ⟨(b0.below hu b0.lt).cell 18 _ rfl, (b0.below hu b0.lt).cell 19 _ rfl, ((b1.below hu b1.lt).cell 18 _ rfl).trans (by rw [HEQ.out.2.2.2.1]), ((b1.below hu b1.lt).cell 19 _ rfl).trans (by rw [HEQ.out.2.2.2.2])⟩
  clear hsW b0 b1 he HEQ e1
  generalize hsc : s.cells = cs0 at *
  generalize htc : t.cells = cs1 at *
  clear hsc htc
  go_enter Try.func36, Try.ntmps36
  go_upto_region 1 with fail
  rw [hW.out]
  clear hW
  go_wp2_with (first | (guard_target = wpList _ _ _ (Oper.mk (some 11) _ _ _ _ _ :: _) _ _; refine wpList_load_mid rfl 29 (.tmp 10) rfl w.heap.size 1 rfl s.page.cells _ hrg0 Try.underlying29 rfl HI0 ?_) | (guard_target = wpList _ _ _ (Oper.mk (some 13) _ _ _ _ _ :: _) _ _; refine wpList_load_mid rfl 29 (.tmp 12) rfl (w.heap.size + 1) 1 rfl t.page.cells _ hrg1 Try.underlying29 rfl HI1 ?_) | fail)
  refine C.mono ?_
  clear C hrg0 hrg1 HI0 HI1 c0 c1
  rintro e w1 ⟨rfl, hb1⟩
  obtain ⟨d0, d1, d2, d3⟩ := HC.out w1 hb1
  clear HC
  generalize s.dirty = sd at *
  generalize s.hot = sh at *
  go_wp2
  go_ret
  exact ⟨rfl, hbW.trans (hb1.mono hbW.size)⟩
end Go.Proofs.Ytoboickdkednkab

/- The walks of laws.toSeatS, toPool, szSeatS, szPool, eqSeatS, eqPool. -/
namespace Go.Proofs.Ytoboickdkednkab
open Go.RowKit

/-- The first k of a row have come. -/
def CameSt (rs ts : List SeatA) (k : Nat) : Prop := ts.length = k ∧ ts.map SeatA.v = (rs.take k).map SeatA.v
theorem CameSt.all {rs ts : List SeatA} (h : CameSt rs ts rs.length) : ts.map SeatA.v = rs.map SeatA.v := by
  have := h.2
  rwa [List.take_length] at this
theorem rangeSt_below {w w' : World} {b o : Nat} {r : SeatA} (h : w.rangeAt b o r.cells) (hb : Below w.heap.size w w') : w'.rangeAt b o r.cells := rangeAt_below h hb (rangeSt_lt h)

theorem mapSt_nil {ts : List SeatA} (h : ts.map SeatA.v = ([] : List SeatA).map SeatA.v) : ts = [] := by simpa using h
set_option maxHeartbeats 1000000 in
set_option maxRecDepth 100000 in
theorem eqSeatS_same (a b : Option Addr) (ca cb : Nat) (rs ts : List SeatA) (he : ts.map SeatA.v = rs.map SeatA.v) (w : World) (ha : ReadsSts w a rs) (hb : ReadsSts w b ts) (hl : rs.length ≤ 1099511627776) (hs : ∀ r ∈ rs, r.short 1099511627776) :
    Calls Try.prog 25 #[.slice a rs.length ca, .slice b ts.length cb] w fun e w' => e = .returned (.bool true) ∧ Below w.heap.size w w' := by
  rcases ha.cases with rfl | ⟨b1, o1, rfl, hpos, hc1⟩
  · obtain rfl := mapSt_nil he
    go_enter Try.func25, Try.ntmps25
    go_wp2
    refine wp_loop_rounds 1 ?_
    rw [rounds_succ]
    go_wp2
    go_ret
    exact ⟨rfl, Below.refl _ _⟩
  · have hlen := mapSt_len he
    rcases hb.cases with rfl | ⟨b2, o2, rfl, _, hc2⟩
    · simp at hlen; omega
    · have HV : Hid (∀ k, k < rs.length → (ts.getD k zeroSt).v = (rs.getD k zeroSt).v) := fun k hk => mapSt_at he k hk
      have HS : Hid (∀ k, k < rs.length → (rs.getD k zeroSt).short 1099511627776) := fun k hk => hs _ (seatD_mem rs k hk)
      have HI : Hid ((Try.prog.info? 70).map (·.size) = some 20) := by rw [Hid]; kernel_rfl
      have hu := Try.underlying70
      rw [hlen] at hc2 ⊢
      clear he hs hlen
      go_enter Try.func25, Try.ntmps25
      go_wp2
      go_loopw [5] (fun i wr => ∃ k : Nat, k ≤ rs.length ∧ i = .int .i64 k ∧ Below w.heap.size w wr) (fun i _ => rs.length - (intOf i).toNat)
      case atStart => exact ⟨0, Nat.zero_le _, rfl, Below.refl _ _⟩
      case round =>
        obtain ⟨k, hk, rfl, hbl⟩ := hrel
        by_cases hlt : k < rs.length
        · obtain ⟨h1, r1⟩ := hc1 k hlt
          obtain ⟨h2, r2⟩ := hc2 k hlt
          have hv := HV.out k hlt
          have hsh := HS.out k hlt
          clear hc1 hc2
          generalize rs.getD k zeroSt = z at *
          generalize ts.getD k zeroSt = y at *
          have HR : Hid (∀ w1, Below w.heap.size w w1 → w1.rangeAt b1 (o1 + k * 20) z.cells ∧ w1.rangeAt b2 (o2 + k * 20) y.cells) := fun w1 hh => ⟨rangeSt_below h1 hh, rangeSt_below h2 hh⟩
          have HD : Hid (∀ w1, Below w.heap.size w w1 → z.reads w1 ∧ y.reads w1) := fun w1 hh => ⟨r1.below hh, r2.below hh⟩
          clear h1 h2 r1 r2
          go_wp2_with fail
          refine wp_region_held_drew (S := fun w' => w'.rangeAt b1 (o1 + k * 20) z.cells ∧ w'.rangeAt b2 (o2 + k * 20) y.cells) (by kernel_rfl) ?_ (fun hHeld => ?_)
          · exact HR.out _ hbl.drew
          refine wpAnyH_take (i := 0) (v := .slice (some ⟨b1, o1, none⟩) rs.length ca) rfl (by kernel_rfl) (by kernel_rfl) (by kernel_rfl) (fun _ _ _ h => h) (Or.inl ⟨by rfl, ?_⟩) hHeld ?_
          · intro w' hSw
            go_simp <;> rfl
          try simp only [Act.put, List.getElem_toArray, List.getElem_cons_zero, List.setIfInBounds_toArray, List.set_cons_zero, List.set_cons_succ]
          refine wpAnyH_take (i := 1) (v := .int .i64 k) rfl (by kernel_rfl) (by kernel_rfl) (by kernel_rfl) (fun _ _ _ h => h) (Or.inl ⟨by rfl, ?_⟩) hHeld ?_
          · intro w' hSw
            go_simp <;> rfl
          try simp only [Act.put, List.getElem_toArray, List.getElem_cons_zero, List.getElem_cons_succ, List.setIfInBounds_toArray, List.set_cons_zero, List.set_cons_succ]
          refine wpAnyH_take (i := 2) (v := .pointer (some ⟨b1, o1 + k * 20, none⟩)) rfl (by kernel_rfl) (by kernel_rfl) (by kernel_rfl) (fun _ _ _ h => h) (Or.inl ⟨by rfl, ?_⟩) hHeld ?_
          · intro w' hSw
            go_simp <;> rfl
          try simp only [Act.put, List.getElem_toArray, List.getElem_cons_zero, List.getElem_cons_succ, List.setIfInBounds_toArray, List.set_cons_zero, List.set_cons_succ]
          refine wpAnyH_take (i := 3) rfl (by kernel_rfl) (by kernel_rfl) (by kernel_rfl) (fun _ _ _ h => h) (yieldsIf_load_mid (by rfl) _ _ rfl _ _ rfl z.cells _ (fun _ h => h.1) Try.underlying70 rfl HI.out) hHeld ?_
          try simp only [Act.put, List.getElem_toArray, List.getElem_cons_zero, List.getElem_cons_succ, List.setIfInBounds_toArray, List.set_cons_zero, List.set_cons_succ]
          refine wpAnyH_take (i := 4) (v := .slice (some ⟨b2, o2, none⟩) rs.length cb) rfl (by kernel_rfl) (by kernel_rfl) (by kernel_rfl) (fun _ _ _ h => h) (Or.inl ⟨by rfl, ?_⟩) hHeld ?_
          · intro w' hSw
            go_simp <;> rfl
          try simp only [Act.put, List.getElem_toArray, List.getElem_cons_zero, List.getElem_cons_succ, List.setIfInBounds_toArray, List.set_cons_zero, List.set_cons_succ]
          refine wpAnyH_take (i := 5) (v := .int .i64 k) rfl (by kernel_rfl) (by kernel_rfl) (by kernel_rfl) (fun _ _ _ h => h) (Or.inl ⟨by rfl, ?_⟩) hHeld ?_
          · intro w' hSw
            go_simp <;> rfl
          try simp only [Act.put, List.getElem_toArray, List.getElem_cons_zero, List.getElem_cons_succ, List.setIfInBounds_toArray, List.set_cons_zero, List.set_cons_succ]
          refine wpAnyH_take (i := 6) (v := .pointer (some ⟨b2, o2 + k * 20, none⟩)) rfl (by kernel_rfl) (by kernel_rfl) (by kernel_rfl) (fun _ _ _ h => h) (Or.inl ⟨by rfl, ?_⟩) hHeld ?_
          · intro w' hSw
            go_simp <;> rfl
          try simp only [Act.put, List.getElem_toArray, List.getElem_cons_zero, List.getElem_cons_succ, List.setIfInBounds_toArray, List.set_cons_zero, List.set_cons_succ]
          refine wpAnyH_take (i := 7) rfl (by kernel_rfl) (by kernel_rfl) (by kernel_rfl) (fun _ _ _ h => h) (yieldsIf_load_mid (by rfl) _ _ rfl _ _ rfl y.cells _ (fun _ h => h.2) Try.underlying70 rfl HI.out) hHeld ?_
          try simp only [Act.put, List.getElem_toArray, List.getElem_cons_zero, List.getElem_cons_succ, List.setIfInBounds_toArray, List.set_cons_zero, List.set_cons_succ]
          refine wpAnyH_ready (rs := [8]) (by kernel_rfl) (by simp) ?_
          refine AllReadyH.cons rfl (fun K hK => ?_) AllReadyH.nil
          go_simp
          refine (eqSeat_same z y hv _ (HD.out _ hbl.drew).1 (HD.out _ hbl.drew).2 hsh).mono ?_
          rintro e w2 ⟨rfl, hb2⟩
          have hw2 : Below w.heap.size w w2 := (hbl.drew).trans (hb2.mono hbl.size)
          refine hK.out _ _ (HR.out _ hw2) (fun hHeld => ?_)
          clear hK K
          try simp only [Act.put, List.getElem_toArray, List.getElem_cons_zero, List.getElem_cons_succ, List.setIfInBounds_toArray, List.set_cons_zero, List.set_cons_succ]
          refine wpAnyH_take (i := 9) (v := .bool false) rfl (by kernel_rfl) (by kernel_rfl) (by kernel_rfl) (fun _ _ _ h => h) (Or.inl ⟨by rfl, ?_⟩) hHeld ?_
          · intro w' hSw
            go_simp <;> rfl
          try simp only [Act.put, List.getElem_toArray, List.getElem_cons_zero, List.getElem_cons_succ, List.setIfInBounds_toArray, List.set_cons_zero, List.set_cons_succ]
          refine wpAnyH_done (by kernel_rfl) ?_ _
          go_wp2_with fail
          go_roundw
          case rel => exact ⟨k + 1, by omega, by go_num, hw2⟩
          case measure => simp [intOf]; omega
        · go_wp2
          go_ret
          exact ⟨rfl, hbl⟩

set_option maxHeartbeats 1000000 in
set_option maxRecDepth 100000 in
theorem eqPool_same (l t : PoolA) (he : t.v = l.v) (w : World) (hr : l.reads w) (ht : t.reads w) (hl : l.short 1099511627776) :
    Calls Try.prog 10 #[.agg l.cells.toArray, .agg t.cells.toArray] w fun e w' => e = .returned (.bool true) ∧ Below w.heap.size w w' := by
  obtain ⟨rs, s, a, c⟩ := l
  obtain ⟨ts, s', a', c'⟩ := t
  obtain ⟨hl1, hl2⟩ := hl
  simp only [PoolA.v, PoolV.mk.injEq] at he
  obtain ⟨he, rfl⟩ := he
  simp only [PoolA.reads, PoolA.cells] at *
  obtain ⟨W, hW, b0, b1, hbW, hsW⟩ := boxes2 w [.slice a rs.length c, .int .i64 s'] [.slice a' ts.length c', .int .i64 s'] 33 33
  have C := eqSeatS_same a a' c c' rs ts he W (hr.below hbW) (ht.below hbW) hl1 hl2
  clear hsW he hl1 hl2 hr ht
  go_enter Try.func10, Try.ntmps10
  go_wp2_with fail
  rw [hW.out]
  clear hW
  refine C.mono ?_
  clear C
  rintro e w1 ⟨rfl, hb1⟩
  have x1 := (b0.below hb1 b0.lt).cell 1 _ rfl
  have y1 := (b1.below hb1 b1.lt).cell 1 _ rfl
  clear b0 b1
  go_wp2
  go_ret
  exact ⟨rfl, hbW.trans (hb1.mono hbW.size)⟩

end Go.Proofs.Ytoboickdkednkab

/- What came in, read: a seat, a pool. -/
namespace Go.Proofs.Ytoboickdkednkab
open Go.ChangeShapes Go.WideShapes Go.ChangeAt Go.RowKit

/-- A seat as it came in. -/
structure InSeat (w : World) (s : SeatA) : Prop where
  slots : ∀ x ∈ s.ss, InSlot w x
  no : InI64 s.no
  lsn : InI64 s.lsn
theorem InSeat.reads {w : World} {s : SeatA} (h : InSeat w s) : s.reads w := fun x hx => (h.slots x hx).reads
theorem InSeat.short {w : World} {s : SeatA} (h : InSeat w s) : s.short 9223372036854775807 := fun x hx => by
  have h1 := (h.slots x hx).lI
  have h2 := (h.slots x hx).lR
  simp only [maxLen] at h1 h2
  omega
/-- A pool as it came in. -/
structure InPool (w : World) (l : PoolA) : Prop where
  seats : ReadsSts w l.a l.seats
  each : ∀ r ∈ l.seats, InSeat w r
  len : l.seats.length ≤ maxLen
  num : InI64 l.hand
theorem InPool.short {w : World} {l : PoolA} (h : InPool w l) : l.short 9223372036854775807 := ⟨by have := h.len; simp only [maxLen] at this; omega, fun r hr => (h.each r hr).short⟩
theorem InPool.reads {w : World} {l : PoolA} (h : InPool w l) : l.reads w := h.seats

section
variable {H : Type} {enc : TypeId × Value → H} {w : World} {base : Nat} {spare : Nat → Bool} {held : Bool}

end
end Go.Proofs.Ytoboickdkednkab

/- What the laws of pools share. -/
namespace Go.Proofs.Ytoboickdkednkab
open Go.RowKit

theorem PoolA.reads.below {w w' : World} {l : PoolA} (h : l.reads w) (hb : Below w.heap.size w w') : l.reads w' := ReadsSts.below h hb
theorem PoolA.own.reads {w : World} {lo hi : Nat} {l : PoolA} (h : l.own w lo hi) : l.reads w := OwnSts.reads h
theorem PoolA.own.below {w w' : World} {lo hi : Nat} {l : PoolA} (h : l.own w lo hi) (hb : Below w.heap.size w w') : l.own w' lo hi := OwnSts.below h hb
theorem PoolA.own.within {w w' : World} {lo hi a b : Nat} {l : PoolA} (h : l.own w lo hi) (hw : Within a b w w') (hd : hi ≤ a ∨ b ≤ lo) : l.own w' lo hi := OwnSts.within h hw hd
theorem PoolA.own.widen {w : World} {lo hi lo' hi' : Nat} {l : PoolA} (h : l.own w lo hi) (h1 : lo' ≤ lo) (h2 : hi ≤ hi') (h3 : hi' ≤ w.heap.size) : l.own w lo' hi' := OwnSts.widen h h1 h2 h3
def PoolA.blocks (l : PoolA) : List Nat := blocksSts l.a l.c l.seats
theorem PoolA.own.blocks_lt {w : World} {lo hi : Nat} {l : PoolA} (h : l.own w lo hi) : ∀ k ∈ l.blocks, lo ≤ k ∧ k < hi := OwnSts.blocks_lt h
theorem PoolA.own.touch {w w' : World} {lo hi : Nat} {l : PoolA} {bl : List Nat} (h : l.own w lo hi) (ht : Touch bl w w') (hd : ∀ k ∈ l.blocks, k ∉ bl) : l.own w' lo hi := OwnSts.touch h ht hd
theorem pool_info (q : PoolA) : (Try.prog.info? 33).map (·.size) = some q.cells.length := by show _ = some 2; kernel_rfl
end Go.Proofs.Ytoboickdkednkab
