/- Several texts in one, in their order. -/
import Derived.Test.YtgnkplbefclpgaaPSchedNewx11
import Derived.Test.YtgnkplbefclpgaaPSchedNewx7
import Derived.Deep.RegionLaw
import Derived.Deep.DrawnRows
import Derived.Deep.RegionHeld3
import Derived.Test.YtgnkplbefclpgaaPSchedNewx10
import Derived.Test.YtgnkplbefclpgaaPSchedNewx6
import Derived.Test.YtgnkplbefclpgaaPSchedNewx4
import Derived.Test.YtgnkplbefclpgaaPSchedNewx5
import Derived.Deep.QuietTactic
import Derived.BigQuiet
import Derived.Test.YtgnkplbefclpgaaPSchedNewx1
set_option maxHeartbeats 8000000
set_option maxRecDepth 100000
namespace Go.Proofs.Ytgnkplbefclpgaa
open Go.RowKit
attribute [local go_sem ↓] Go.wp_at_zero Go.wp_at_succ
end Go.Proofs.Ytgnkplbefclpgaa
namespace Go.Proofs.Ytgnkplbefclpgaa
open Go.RowKit
theorem range_below {w w' : World} {b o : Nat} {r : RecA} (h : w.rangeAt b o r.cells) (hb : Below w.heap.size w w') : w'.rangeAt b o r.cells := rangeAt_below h hb (rangeR_lt h)
theorem mapV_nil {ts : List RecA} (h : ts.map RecA.v = ([] : List RecA).map RecA.v) : ts = [] := by simpa using h
theorem eqRecS_same (a b : Option Addr) (ca cb : Nat) (rs ts : List RecA) (he : ts.map RecA.v = rs.map RecA.v) (w : World) (ha : ReadsRs w a rs) (hb : ReadsRs w b ts) (hl : rs.length ≤ 1099511627776) (hs : ∀ r ∈ rs, r.short 1099511627776) :
  Calls Try.prog 60 #[.slice a rs.length ca, .slice b ts.length cb] w fun e w' => e = .returned (.bool true) ∧ Below w.heap.size w w' := by
 rcases ha.cases with rfl | ⟨b1, o1, rfl, hpos, hc1⟩
 ·obtain rfl := mapV_nil he
  go_enter Try.func60, Try.ntmps60
  go_wp2
  refine wp_loop_rounds 1 ?_
  rw [rounds_succ]
  go_wp2
  go_ret
  exact ⟨rfl, Below.refl _ _⟩
 ·have hlen := mapV_len he
  rcases hb.cases with rfl | ⟨b2, o2, rfl, _, hc2⟩
  ·simp at hlen; omega
  ·have HV : Hid (∀ k, k < rs.length → (ts.getD k zeroR).v = (rs.getD k zeroR).v) := fun k hk => mapV_at he k hk
   have HS : Hid (∀ k, k < rs.length → (rs.getD k zeroR).short 1099511627776) := fun k hk => hs _ (recD_mem rs k hk)
   have HI : Hid ((Try.prog.info? 113).map (·.size) = some 15) := by rw [Hid]; kernel_rfl
   have hu := Try.underlying113
   rw [hlen] at hc2 ⊢
   clear he hs hlen
   go_enter Try.func60, Try.ntmps60
   go_wp2
   go_loopw [5] (fun i wr => ∃ k : Nat, k ≤ rs.length ∧ i = .int .i64 k ∧ Below w.heap.size w wr) (fun i _ => rs.length - (intOf i).toNat)
   case atStart => exact ⟨0, Nat.zero_le _, rfl, Below.refl _ _⟩
   case round =>
    obtain ⟨k, hk, rfl, hbl⟩ := hrel
    by_cases hlt : k < rs.length
    ·obtain ⟨h1, r1⟩ := hc1 k hlt
     obtain ⟨h2, r2⟩ := hc2 k hlt
     have hv := HV.out k hlt
     have hsh := HS.out k hlt
     clear hc1 hc2
     generalize rs.getD k zeroR = z at *
     generalize ts.getD k zeroR = y at *
     have HR : Hid (∀ w1, Below w.heap.size w w1 → w1.rangeAt b1 (o1 + k * 15) z.cells ∧ w1.rangeAt b2 (o2 + k * 15) y.cells) := fun w1 hh => ⟨range_below h1 hh, range_below h2 hh⟩
     have HD : Hid (∀ w1, Below w.heap.size w w1 → z.reads w1 ∧ y.reads w1) := fun w1 hh => ⟨r1.below hh, r2.below hh⟩
     clear h1 h2 r1 r2
     go_wp2_with fail
     refine wp_region_held_drew (S := fun w' => w'.rangeAt b1 (o1 + k * 15) z.cells ∧ w'.rangeAt b2 (o2 + k * 15) y.cells) (by kernel_rfl) ?_ (fun hHeld => ?_)
     ·exact HR.out _ hbl.drew
     refine tk 0 (v := .slice (some ⟨b1, o1, none⟩) rs.length ca) rfl (Or.inl ⟨by rfl, ?_⟩) hHeld ?_
     ·intro w' hSw
      go_simp <;> rfl
     try simp only [Act.put, zA, zB, zD, zE, zF]
     refine tk 1 (v := .int .i64 k) rfl (Or.inl ⟨by rfl, ?_⟩) hHeld ?_
     ·intro w' hSw
      go_simp <;> rfl
     try simp only [Act.put, zA, zB, zC, zD, zE, zF]
     refine tk 2 (v := .pointer (some ⟨b1, o1 + k * 15, none⟩)) rfl (Or.inl ⟨by rfl, ?_⟩) hHeld ?_
     ·intro w' hSw
      go_simp <;> rfl
     try simp only [Act.put, zA, zB, zC, zD, zE, zF]
     refine tk 3 rfl (yieldsIf_load_mid (by rfl) _ _ rfl _ _ rfl z.cells _ (fun _ h => h.1) Try.underlying113 rfl HI.out) hHeld ?_
     try simp only [Act.put, zA, zB, zC, zD, zE, zF]
     refine tk 4 (v := .slice (some ⟨b2, o2, none⟩) rs.length cb) rfl (Or.inl ⟨by rfl, ?_⟩) hHeld ?_
     ·intro w' hSw
      go_simp <;> rfl
     try simp only [Act.put, zA, zB, zC, zD, zE, zF]
     refine tk 5 (v := .int .i64 k) rfl (Or.inl ⟨by rfl, ?_⟩) hHeld ?_
     ·intro w' hSw
      go_simp <;> rfl
     try simp only [Act.put, zA, zB, zC, zD, zE, zF]
     refine tk 6 (v := .pointer (some ⟨b2, o2 + k * 15, none⟩)) rfl (Or.inl ⟨by rfl, ?_⟩) hHeld ?_
     ·intro w' hSw
      go_simp <;> rfl
     try simp only [Act.put, zA, zB, zC, zD, zE, zF]
     refine tk 7 rfl (yieldsIf_load_mid (by rfl) _ _ rfl _ _ rfl y.cells _ (fun _ h => h.2) Try.underlying113 rfl HI.out) hHeld ?_
     try simp only [Act.put, zA, zB, zC, zD, zE, zF]
     refine wpAnyH_ready (rs := [8]) (by kernel_rfl) (by simp) ?_
     refine AllReadyH.cons rfl (fun K hK => ?_) AllReadyH.nil
     go_simp
     refine (eqRec_same z y hv _ (HD.out _ hbl.drew).1 (HD.out _ hbl.drew).2 hsh).mono ?_
     rintro e w2 ⟨rfl, hb2⟩
     have hw2 : Below w.heap.size w w2 := (hbl.drew).trans (hb2.mono hbl.size)
     refine hK.out _ _ (HR.out _ hw2) (fun hHeld => ?_)
     clear hK K
     try simp only [Act.put, zA, zB, zC, zD, zE, zF]
     refine tk 9 (v := .bool false) rfl (Or.inl ⟨by rfl, ?_⟩) hHeld ?_
     ·intro w' hSw
      go_simp <;> rfl
     try simp only [Act.put, zA, zB, zC, zD, zE, zF]
     refine wpAnyH_done (by kernel_rfl) ?_ _
     go_wp2_with fail
     go_roundw
     case rel => exact ⟨k + 1, by omega, by go_num, hw2⟩
     case measure => simp [intOf]; omega
    ·go_wp2
     go_ret
     exact ⟨rfl, hbl⟩
theorem eqLog_same (l t : LogA) (he : t.v = l.v) (w : World) (hr : l.reads w) (ht : t.reads w) (hl : l.short 1099511627776) :
  Calls Try.prog 38 #[.agg l.cells.toArray, .agg t.cells.toArray] w fun e w' => e = .returned (.bool true) ∧ Below w.heap.size w w' := by
 obtain ⟨rs, s, a, c⟩ := l
 obtain ⟨ts, s', a', c'⟩ := t
 obtain ⟨hl1, hl2⟩ := hl
 simp only [LogA.v, LogV.mk.injEq] at he
 obtain ⟨he, rfl⟩ := he
 simp only [LogA.reads, LogA.cells] at *
 obtain ⟨W, hW, b0, b1, hbW, hsW⟩ := boxes2 w [.slice a rs.length c, .int .i64 s'] [.slice a' ts.length c', .int .i64 s'] 38 38
 have C := eqRecS_same a a' c c' rs ts he W (hr.below hbW) (ht.below hbW) hl1 hl2
 clear hsW he hl1 hl2 hr ht
 go_enter Try.func38, Try.ntmps38
 go_wp2_with fail
 rw [hW.out]
 clear hW
 refine C.mono ?_
 clear C
 rintro e w1 ⟨rfl, hb1⟩
 have x1 := (b0.below hb1 b0.lt).cell 1 _ rfl
 have y1 := (b1.below hb1 b1.lt).cell 1 _ rfl
 clear b0 b1
 go_wp2
 go_ret
 exact ⟨rfl, hbW.trans (hb1.mono hbW.size)⟩
end Go.Proofs.Ytgnkplbefclpgaa
namespace Go.Proofs.Ytgnkplbefclpgaa
open Go.ChangeShapes Go.WideShapes Go.ChangeAt Go.RowKit
structure InLog (w : World) (l : LogA) : Prop where
 recs : ReadsRs w l.a l.recs
 each : ∀ r ∈ l.recs, InRec w r
 len : l.recs.length ≤ maxLen
 num : InI64 l.sure
theorem InLog.short {w : World} {l : LogA} (h : InLog w l) : l.short 9223372036854775807 := ⟨by have := h.len; simp only [maxLen] at this; omega, fun r hr => (h.each r hr).short⟩
section
variable {H : Type} {enc : TypeId × Value → H} {w : World} {base : Nat} {spare : Nat → Bool} {held : Bool}
end
end Go.Proofs.Ytgnkplbefclpgaa
namespace Go.Proofs.Ytgnkplbefclpgaa
open Go.RowKit
theorem LogA.reads.below {w w' : World} {l : LogA} (h : l.reads w) (hb : Below w.heap.size w w') : l.reads w' := ReadsRs.below h hb
theorem LogA.own.reads {w : World} {lo hi : Nat} {l : LogA} (h : l.own w lo hi) : l.reads w := OwnRs.reads h
theorem LogA.own.below {w w' : World} {lo hi : Nat} {l : LogA} (h : l.own w lo hi) (hb : Below w.heap.size w w') : l.own w' lo hi := OwnRs.below h hb
theorem LogA.own.widen {w : World} {lo hi lo' hi' : Nat} {l : LogA} (h : l.own w lo hi) (h1 : lo' ≤ lo) (h2 : hi ≤ hi') (h3 : hi' ≤ w.heap.size) : l.own w lo' hi' := OwnRs.widen h h1 h2 h3
def LogA.blocks (l : LogA) : List Nat := blocksRs l.a l.c l.recs
theorem LogA.own.blocks_lt {w : World} {lo hi : Nat} {l : LogA} (h : l.own w lo hi) : ∀ k ∈ l.blocks, lo ≤ k ∧ k < hi := OwnRs.blocks_lt h
theorem LogA.own.touch {w w' : World} {lo hi : Nat} {l : LogA} {bl : List Nat} (h : l.own w lo hi) (ht : Touch bl w w') (hd : ∀ k ∈ l.blocks, k ∉ bl) : l.own w' lo hi := OwnRs.touch h ht hd
theorem InLog.reads {w : World} {l : LogA} (h : InLog w l) : l.reads w := h.recs
theorem log_info (q : LogA) : (Try.prog.info? 38).map (·.size) = some q.cells.length := by show _ = some 2; kernel_rfl
end Go.Proofs.Ytgnkplbefclpgaa
namespace Go.Proofs.Ytgnkplbefclpgaa
open Go.RowKit
attribute [local go_sem ↓] Go.wp_at_zero Go.wp_at_succ
end Go.Proofs.Ytgnkplbefclpgaa
namespace Go.Proofs.Ytgnkplbefclpgaa
open Go.RowKit
end Go.Proofs.Ytgnkplbefclpgaa
namespace Go.Proofs.Ytgnkplbefclpgaa
open Go.RowKit
end Go.Proofs.Ytgnkplbefclpgaa