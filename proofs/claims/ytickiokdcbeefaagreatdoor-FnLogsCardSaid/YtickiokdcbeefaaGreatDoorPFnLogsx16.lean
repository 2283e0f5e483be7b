/- Several texts in one, in their order. -/
import Derived.Test.YtickiokdcbeefaaGreatDoorProg
import Derived.Test.YtickiokdcbeefaaGreatDoorPFnLogsx1
import Derived.ProofKit
import Derived.OpenShut
import Derived.ChangeOld
import Derived.Test.YtickiokdcbeefaaGreatDoorPFnLogsx13
import Derived.Test.YtickiokdcbeefaaGreatDoorPFnLogsx14
import Derived.Test.YtickiokdcbeefaaGreatDoorPFnLogsx15
import Derived.Test.YtickiokdcbeefaaGreatDoorPFnLogsx8
import Derived.Test.YtickiokdcbeefaaGreatDoorPFnLogsx3
import Derived.Test.YtickiokdcbeefaaGreatDoorPFnLogsx5
import Derived.Deep.CutRange
import Derived.Test.YtickiokdcbeefaaGreatDoorRows
import Derived.Test.YtickiokdcbeefaaGreatDoorPFnLogsx6
import Derived.LaidLaws
import Derived.LaidHandle
import Derived.Stop.Joined
import Derived.ChangeVars
set_option maxHeartbeats 8000000
set_option maxRecDepth 100000
namespace Go.Proofs.YtickiokdcbeefaaGreatDoor
open Go.ChangeShapes Go.WideShapes Go.ChangeAt Go.RowKit
section
variable {H : Type} {enc : TypeId × Value → H} {w : World} {base : Nat} {spare : Nat → Bool} {held : Bool}
theorem trod_bytes {fuel : Nat} {cs : List Value} {x : DataW H × List MemPlace} (h : DataW.trod enc Tryz.prog w base spare held fuel 22 cs = some x) :
  ∃ (a : Option Addr) (c : Nat) (ns : List Int), cs = [.slice a ns.length c] ∧ Reads w a ns ∧ (a = none → c = 0) ∧ ns.length ≤ maxLen := by
 rcases open_ints Tryz.underlying22 Tryz.underlying5 (by kernel_rfl) h with ⟨rfl, _⟩ | ⟨a, len, cap, zs, rfl, _, hl, hm, hz, _, hcell, hwf⟩
 ·exact ⟨none, 0, [], rfl, ⟨by simp, by simp⟩, fun _ => rfl, by simp⟩
 ·have hlz : len ≤ zs.length := by rw [hz]; split <;> omega
  refine ⟨some a, cap, zs.take len, by simp; omega, ⟨fun z hzz => ?_, ?_⟩, (fun h => by cases h), by simp; omega⟩
  ·have := hwf z (List.mem_of_mem_take hzz)
   simp [Lit.wf, IntKind.min, IntKind.max, IntKind.signed, IntKind.bits] at this
   omega
  ·intro hne
   have hpos := List.length_pos_iff.2 hne
   simp at hpos
   obtain ⟨b, off, spot⟩ := a
   have hc0 := hcell 0 (by omega)
   have hspot : spot = none := by simpa [Addr.add] using World.cell?_spot hc0
   subst hspot
   refine ⟨b, off, rfl, fun i hi => ?_⟩
   have hi' : i < len := by simp at hi; omega
   have := hcell i (by omega)
   have e : (List.take len zs).getD i 0 = zs.getD i 0 := by simp [List.getD, hi']
   rw [e, ← Addr_add]
   exact this
theorem open_bytes {b0 : Nat} {v : Value} {d : DataW H} {ps : List MemPlace} (hval : Value.okWide Tryz.prog w .any b0 22 v) (h : DataW.Trod enc Tryz.prog w base spare held 22 v d ps) :
  ∃ (a : Option Addr) (c : Nat) (ns : List Int), v = .slice a ns.length c ∧ Reads w a ns ∧ (a = none → c = 0) ∧ ns.length ≤ maxLen := by
 obtain ⟨a, len, cap, hv⟩ := okWide_slice (e := 5) Tryz.underlying22 hval
 subst hv
 obtain ⟨fuel, hf⟩ := h
 have e : (Value.slice a len cap).cells.toList = [Value.slice a len cap] := rfl
 rw [e] at hf
 obtain ⟨a', c', ns, hc, rest⟩ := trod_bytes hf
 simp only [List.cons.injEq, and_true] at hc
 exact ⟨a', c', ns, hc, rest⟩
end
end Go.Proofs.YtickiokdcbeefaaGreatDoor
namespace Go.Proofs.YtickiokdcbeefaaGreatDoor
open Go.RowKit
attribute [local go_sem ↓] Go.wp_at_zero Go.wp_at_succ
def LogsDrawn (w : World) (r : Ending) (w' : World) : Prop := ∃ l : LogA, r = .returned (.agg l.cells.toArray) ∧ l.reads w' ∧ l.recs.length ≤ 262144 ∧ (∀ x ∈ l.recs, x.short 12) ∧ Below w.heap.size w w'
theorem drawLogBytes_any (a : Option Addr) (c : Nat) (zs : List Int) (w : World) (hr : Reads w a zs) (hl : zs.length ≤ 70368744177664) :
  Calls Tryz.prog 7 #[.slice a zs.length c] w fun r w' => LogsDrawn w r w' := by
 obtain ⟨W, hW, bR, hbW, hsW⟩ := boxes1 w [.slice none 0 0, .int .i64 0] 26
 have hws : w.heap.size < W.heap.size := bR.lt
 have C1 := l1New_any a c zs W (hr.below hbW) hl
 clear hsW
 go_enter Tryz.func7, Tryz.ntmps7
 go_wp2_with fail
 rw [hW.out]
 refine C1.mono ?_
 clear C1 hW
 rintro r w1 ⟨rfl, hc1, hb1⟩
 have s1 := hb1.size
 have lc := hc1.lt
 have bR1 := bR.below hb1 bR.lt
 have N1 : Below w.heap.size w w1 := hbW.trans (hb1.mono hbW.size)
 have C2 := l1Size_any a c zs 12 w1 hl (by omega)
 clear hb1 hbW bR
 go_wp2_with fail
 refine C2.mono ?_
 clear C2
 rintro r w2 ⟨n, rfl, hn0, hn16, rfl⟩
 have C3 := l5DrawAny_any W.heap.size zs (n : Int) w2 hc1 hl (by omega) (by omega)
 go_wp2_with fail
 refine C3.mono ?_
 clear C3
 rintro r w3 ⟨l, rfl, hrd, hlen, hsh, hcp, hcf, hc3, hw3⟩
 have s3 := hw3.size
 have bR3 := bR1.within hw3 (by omega)
 have N3 : Below w.heap.size w w3 := N1.trans (hw3.below (by omega) (by omega))
 obtain ⟨WF, hWF, hwF, hsF, HTF, HLF, bF⟩ := log_out l _ rfl bR3
 have hrF : l.reads WF := hrd WF [w.heap.size] (touch_of hwF) (fun k hk => by have := List.mem_singleton.1 hk; omega)
 have NF : Below w.heap.size w WF := N3.trans (hwF.below (Nat.le_refl _) (by omega))
 have HEND : Hid (LogsDrawn w (.returned (.agg l.cells.toArray)) WF) := ⟨l, rfl, hrF, hlen, hsh, NF⟩
 have hWF' : Hid (w3.setCells w.heap.size 0 l.cells.toArray.toList = WF) := hWF.out
 have HO := log_one l
 have HI : Hid ((Tryz.prog.info? 26).map (·.size) = some l.cells.toArray.size) := log_info l
 clear hrF NF bF hwF hsF hWF bR3 bR1 N1 N3
 go_wp2_with (first | (guard_target = wpList _ _ _ (Oper.mk none (Op.store _ (Operand.tmp 2) _) _ _ _ _ :: _) _ _; refine wpList_store_mid rfl 26 (.tmp 2) (.tmp 9) rfl w.heap.size 0 l.cells.toArray rfl rfl HTF.out HI.out HO ?_; rw [hWF'.out]) | fail)
 exact bodyPost_ret (v := .agg l.cells.toArray) (results_one Tryz.results7 rfl HLF.out) rfl HEND.out
theorem okLog_all_sure {l : LogV} (h : okLog l = true) : okLog ⟨l.recs, l.recs.length⟩ = true := by
 obtain ⟨g0, g1, g2, g3⟩ := okLog_yes h
 refine okLog_all g0 (by simp [inB]) (fun k hk => ?_)
 obtain ⟨e1, e2⟩ := g3 k hk
 show okAt l.recs k = true
 unfold okAt
 rw [e1, e2]
 simp
theorem reads_take {w : World} {a : Option Addr} {zs : List Int} (hr : Reads w a zs) (k : Nat) : Reads w a (zs.take k) := by
 refine ⟨fun z hz => hr.1 z (List.mem_of_mem_take hz), fun hne => ?_⟩
 obtain ⟨b, off, ha, hc⟩ := hr.2 (fun e => hne (by rw [e]; simp))
 refine ⟨b, off, ha, fun i hi => ?_⟩
 have h1 : i < k ∧ i < zs.length := by simp only [List.length_take] at hi; omega
 rw [hc i h1.2]
 simp [List.getD, h1.1]
theorem framesV_nil {rs : List RecV} (h : (framesV rs).length = 0) : rs = [] := by
 cases rs with
 | nil => rfl
 | cons r B =>
  rw [show r :: B = [r] ++ B from rfl, framesV_app, framesV_one, List.length_append, frame_len4] at h
  omega
theorem logs_cut {l : LogV} (h : okLog l = true) (cut : Nat) (hc : cut < (logBytesOf l).length ∨ ((logBytesOf l).length = 0 ∧ cut = 0)) :
  ∃ j, j ≤ l.recs.length ∧ (readLogOf ((logBytesOf l).take cut)).1 = l.recs.take j ∧ (readLogOf ((logBytesOf l).take cut)).2 ≤ cut ∧ (0 < (logBytesOf l).length → j ≠ l.recs.length) := by
 rcases hc with hc | ⟨h0, rfl⟩
 ·obtain ⟨j, h1, h2, h3⟩ := read_cut h cut hc
  exact ⟨j, by omega, h2, h3, fun _ => by omega⟩
 ·have e : logBytesOf l = framesV l.recs := by rw [logBytesOf, if_pos h]; rfl
  have hn : l.recs = [] := framesV_nil (by rw [← e]; exact h0)
  have hz : (logBytesOf l).take 0 = logBytesOf l := by
   have : logBytesOf l = [] := List.length_eq_zero_iff.1 h0
   rw [this]; rfl
  rw [hz, read_whole h, hn]
  exact ⟨0, by simp, by simp, by show ((logBytesOf l).length : Int) ≤ (0 : Nat); omega, fun hp => by omega⟩
theorem bytes_len {l : LogA} (h : okLog l.v = true) : (logBytesOf l.v).length ≤ 400400000 := by
 have h1 := (okLog_yes h).1
 rw [LogA.v_len] at h1
 have e : logBytesOf l.v = framesB (l.recs.take l.recs.length) := by rw [logBytesOf, if_pos h, List.take_length]; rfl
 have h2 := framesB_len l.recs l.recs.length
 rw [e]
 have : l.recs.length * 100100 ≤ 4000 * 100100 := Nat.mul_le_mul_right _ h1
 omega
theorem lawLogs_walk (a : Option Addr) (cap : Nat) (zs : List Int) (w : World) (hg : ErrT w) (hr : Reads w a zs) :
  Calls Tryz.prog 3 #[.slice a zs.length cap] w fun e w' => e = .returned (.bool true) ∧ Below w.heap.size w w' := by
 by_cases hbig : 1048576 < zs.length
 ·have hd : decide (1048576 < zs.length) = true := decide_eq_true hbig
  go_enter Tryz.func3, Tryz.ntmps3
  go_wp2_with fail
  refine (big_any a cap zs.length w).mono ?_
  rw [hd]
  rintro e u ⟨rfl, hu⟩
  rw [hu]
  clear hu u
  go_wp2
  go_ret
  exact ⟨rfl, Below.refl _ _⟩
 have hd : decide (1048576 < zs.length) = false := decide_eq_false hbig
 go_enter Tryz.func3, Tryz.ntmps3
 go_wp2_with fail
 refine (big_any a cap zs.length w).mono ?_
 rw [hd]
 rintro e u ⟨rfl, hu⟩
 rw [hu]
 clear hu u hd
 go_wp2_with fail
 refine (drawLogBytes_any a cap zs w hr (by omega)).mono ?_
 rintro e w1 ⟨l, rfl, hrl, hlen, hsh, B1⟩
 have hlS : l.short 1048576 := ⟨by omega, fun x hx => ⟨by have := (hsh x hx).bf; omega, by have := (hsh x hx).af; omega, by have := (hsh x hx).txs; omega⟩⟩
 have hlW := LogA.short_wide hlS
 obtain ⟨W2, hW2, b3, hb2, hs2⟩ := boxes1 w1 [.slice l.a l.recs.length l.c, .int .i64 l.sure] 26
 have B2 : Below w.heap.size w W2 := B1.trans (hb2.mono B1.size)
 have hrl2 := LogA.reads.below hrl hb2
 have HGB : Hid (∀ u, Below w.heap.size w u → ErrT u) := fun u hu => hg.keep hu
 have HRZ : Hid (∀ u, Below w.heap.size w u → Reads u a zs) := fun u hu => hr.below hu
 have s2 := b3.lt
 have C := implLogBytes_any l W2 (HGB.out _ B2) hrl2 hlW
 simp only [LogA.cells] at *
 clear hs2 hb2 hrl B1 hg hr
 go_upto_region 4 with fail
 rw [hW2.out]
 clear hW2
 have p0 := b3.cell 0 _ rfl
 have p1 := b3.cell 1 _ rfl
 go_wp2_with fail
 refine C.mono ?_
 clear C p0 p1
 rintro e w3 ⟨ab, cb, ys, rfl, hys, oy, hb3⟩
 have s3 := hb3.size
 have b33 := b3.below hb3 b3.lt
 have B3 : Below w.heap.size w w3 := B2.trans (hb3.mono B2.size)
 have hrl3 := LogA.reads.below hrl2 hb3
 have p0 := b33.cell 0 _ rfl
 have p1 := b33.cell 1 _ rfl
 have C := specLogOk_any l w3 hrl3 hlW
 simp only [LogA.cells] at C
 clear b3 hb3 hrl2 B2
 go_wp2_with fail
 refine C.mono ?_
 clear C p0 p1
 rintro e w4 ⟨rfl, hb4⟩
 have s4 := hb4.size
 have b34 := b33.below hb4 b33.lt
 have B4 : Below w.heap.size w w4 := B3.trans (hb4.mono B3.size)
 have hrl4 := LogA.reads.below hrl3 hb4
 have oy4 := oy.below hb4
 clear b33 hb4 hrl3 B3 oy
 cases hok : okLog l.v with
 | false =>
  have hy0 : ys = [] := by rw [hys.out, logBytesOf, if_neg (by rw [hok]; decide)]
  subst hy0
  have p0 := b34.cell 0 _ rfl
  have p1 := b34.cell 1 _ rfl
  have C := implLogOk_any l w4 (HGB.out _ B4) hrl4 hlW
  rw [hok] at C
  simp only [LogA.cells] at C
  clear hok hys
  go_wp2_with fail
  refine C.mono ?_
  rintro e w5 ⟨rfl, hb5⟩
  go_wp2_with fail
  go_ret
  exact ⟨rfl, B4.trans (hb5.mono B4.size)⟩
 | true =>
  have hyl : ys.length ≤ 400400000 := by rw [hys.out]; exact bytes_len hok
  have HRW : Hid (readLogOf ys = (l.v.recs, (ys.length : Int))) := by rw [Hid, hys.out]; exact read_whole hok
  have HCUT : Hid (∀ cut : Nat, cut < ys.length ∨ (ys.length = 0 ∧ cut = 0) → ∃ j, j ≤ l.recs.length ∧ (readLogOf (ys.take cut)).1 = l.v.recs.take j ∧ (readLogOf (ys.take cut)).2 ≤ cut ∧ (0 < ys.length → j ≠ l.recs.length)) := fun cut hc => by
   have := logs_cut hok cut (by rw [← hys.out]; exact hc)
   rw [← hys.out, LogA.v_len] at this
   exact this
  have HOKL : Hid (okLog l.v = true) := hok
  have HOKA : Hid (∀ t : LogA, t.v = ⟨l.v.recs, (l.v.recs.length : Int)⟩ → okLog t.v = true) := fun t ht => by rw [ht]; exact okLog_all_sure hok
  have C := implReadLog_any ab cb ys w4 (HGB.out _ B4) oy4.reads (by omega) oy4.cap
  have hcb := oy4.cap
  clear hok hys
  go_wp2_with fail
  refine C.mono ?_
  clear C
  rintro e w5 ⟨t, rfl, hvt, ot, hb5⟩
  have s5 := hb5.size
  rw [HRW.out] at hvt ⊢
  have hvt' : t.v = ⟨l.v.recs, (l.v.recs.length : Int)⟩ := hvt.out
  have htl : Hid (t.recs.length = l.recs.length) := by
   have := congrArg (fun v => v.recs.length) hvt'
   simp only [LogA.v, List.length_map] at this
   exact this
  have hts : Hid (t.sure = (l.recs.length : Int)) := by
   have := congrArg LogV.sure hvt'
   rw [LogA.v_len] at this
   exact this
  have htS : t.short 1099511627776 := by
   refine ⟨by rw [htl.out]; omega, fun y hy => ?_⟩
   have hm : y.v ∈ t.v.recs := List.mem_map.2 ⟨y, hy, rfl⟩
   rw [hvt'] at hm
   obtain ⟨z, hz, e⟩ := List.mem_map.1 hm
   exact short_of e.symm (hlW.each z hz)
  have hokt := HOKA.out t hvt'
  obtain ⟨W6, hW6, b5, hb6, hs6⟩ := boxes1 w5 [.slice t.a t.recs.length t.c, .int .i64 t.sure] 26
  have N46 : Below w4.heap.size w4 W6 := hb5.trans (hb6.mono hb5.size)
  have b36 := b34.below N46 b34.lt
  have oy6 := oy4.below N46
  have ot6 := LogA.own.below ot hb6
  have B6 : Below w.heap.size w W6 := B4.trans (N46.mono B4.size)
  have hrl6 := LogA.reads.below hrl4 N46
  have s6 := b5.lt
  simp only [LogA.cells] at *
  clear b34 oy4 ot B4 hrl4 N46 hb5 hb6 hs6 hvt hvt' HRW HOKA
  go_upto_region 8 with fail
  rw [hW6.out]
  clear hW6
  have p0 := b36.cell 0 _ rfl
  have q0 : W6.cell? ⟨w5.heap.size, 0, none⟩ = some (.slice t.a l.recs.length t.c) := (b5.cell 0 _ rfl).trans (by rw [htl.out])
  have q1 : W6.cell? ⟨w5.heap.size, 1, none⟩ = some (.int .i64 (l.recs.length : Int)) := (b5.cell 1 _ rfl).trans (by rw [hts.out])
  have C := implLogOk_any t W6 (HGB.out _ B6) ot6.reads htS
  rw [hokt] at C
  simp only [LogA.cells, htl.out, hts.out] at C
  go_wp2_with fail
  refine C.mono ?_
  clear C p0 q0 q1 hokt
  rintro e w7 ⟨rfl, hb7⟩
  have s7 := hb7.size
  have b37 := b36.below hb7 b36.lt
  have q0 : w7.cell? ⟨w5.heap.size, 0, none⟩ = some (.slice t.a l.recs.length t.c) := ((b5.below hb7 b5.lt).cell 0 _ rfl).trans (by rw [htl.out])
  have q1 : w7.cell? ⟨w5.heap.size, 1, none⟩ = some (.int .i64 (l.recs.length : Int)) := ((b5.below hb7 b5.lt).cell 1 _ rfl).trans (by rw [hts.out])
  have oy7 := oy6.below hb7
  have B7 : Below w.heap.size w w7 := B6.trans (hb7.mono B6.size)
  have hrl7 := LogA.reads.below hrl6 hb7
  clear b36 b5 oy6 ot6 B6 hrl6 hb7 htl hts htS
  by_cases hpos : 0 < ys.length
  ·have hposb : (ys.length : Int) > 0 := by omega
   go_wp2_with fail
   refine (at_any a cap zs 2 w7 (HRZ.out _ B7) (by omega) (by omega)).mono ?_
   rintro e u ⟨⟨m1, hm1, rfl⟩, hu⟩
   rw [hu]
   clear hu u q0 q1
   go_wp2_with fail
   refine (at_any a cap zs 3 w7 (HRZ.out _ B7) (by omega) (by omega)).mono ?_
   rintro e u ⟨⟨m2, hm2, rfl⟩, hu⟩
   rw [hu]
   clear hu u
   obtain ⟨cut, hcut, hcl⟩ : ∃ cut : Nat, ((m1 : Int) * 256 + (m2 : Int)) % (ys.length : Int) = (cut : Int) ∧ cut < ys.length := by
    refine ⟨(m1 * 256 + m2) % ys.length, ?_, Nat.mod_lt _ hpos⟩
    rw [Int.natCast_emod]
    rfl
   have hz : ¬ (ys.length : Int) = 0 := by omega
   have HJ := HCUT.out cut (.inl hcl)
   obtain ⟨g, rfl⟩ : ∃ g, ab = some ⟨g, 0, none⟩ := by
    obtain ⟨g, hg, _⟩ := oy7.at hpos
    exact ⟨g, hg⟩
   have hcc : (cut : Int) ≤ (cb : Int) := by omega
   have hc0 : (0 : Int) ≤ (cut : Int) := by omega
   have hlc : (ys.take cut).length = cut := by rw [List.length_take]; omega
   have hrc := reads_take oy7.reads cut
   have C := implReadLog_any (some ⟨g, 0, none⟩) cb (ys.take cut) w7 (HGB.out _ B7) hrc (by rw [hlc]; omega) (by rw [hlc]; omega)
   rw [hlc] at C
   obtain ⟨j, hj, e1, e2, e3⟩ := HJ
   have HT2 : Hid (∀ t2 : LogA, t2.v = ⟨(readLogOf (ys.take cut)).1, (readLogOf (ys.take cut)).1.length⟩ → t2.recs.length = j ∧ (∀ k, k < j → (t2.recs.getD k zeroR).v = (l.recs.getD k zeroR).v) ∧ t2.short 1099511627776) := fun t2 h2 => by
    rw [e1] at h2
    have h3 : t2.recs.map RecA.v = (l.recs.map RecA.v).take j := congrArg LogV.recs h2
    have h4 : t2.recs.length = j := by
     have := congrArg List.length h3
     simp only [List.length_map, List.length_take] at this
     omega
    refine ⟨h4, fun k hk => ?_, by rw [h4]; omega, fun y hy => ?_⟩
    ·have := congrArg (fun x => x[k]?) h3
     have hk2 : k < t2.recs.length := by omega
     have hk3 : k < l.recs.length := by omega
     simpa [List.getD, hk, hk2, hk3] using this
    ·have hm : y.v ∈ t2.recs.map RecA.v := List.mem_map.2 ⟨y, hy, rfl⟩
     rw [h3] at hm
     obtain ⟨z, hz, e⟩ := List.mem_map.1 (List.mem_of_mem_take hm)
     exact short_of e.symm (hlW.each z hz)
   simp only [LogGot] at C
   have hmid : ¬ (readLogOf (ys.take cut)).2 > (cut : Int) := by simpa using e2
   have HE3 : Hid (0 < ys.length → j ≠ l.recs.length) := e3
   generalize (readLogOf (ys.take cut)).2 = mid at *
   clear e1 e2 e3 HCUT hrc hlc
   go_wp2_with fail
   refine C.mono ?_
   clear C
   rintro e w8 ⟨t2, rfl, hv2, ot2, hb8⟩
   simp only [hcut]
   clear hcut hz
   obtain ⟨hjl, hjv, hjS⟩ := HT2.out t2 hv2.out
   have HJL : Hid (t2.recs.length = j) := hjl
   have HJV : Hid (∀ k, k < j → (t2.recs.getD k zeroR).v = (l.recs.getD k zeroR).v) := hjv
   have s8 := hb8.size
   obtain ⟨W9, hW9, b9, hb9, hs9⟩ := boxes1 w8 [.slice t2.a t2.recs.length t2.c, .int .i64 t2.sure] 26
   have N79 : Below w7.heap.size w7 W9 := hb8.trans (hb9.mono hb8.size)
   have b39 := b37.below N79 b37.lt
   have ot9 := LogA.own.below ot2 hb9
   have B9 : Below w.heap.size w W9 := B7.trans (N79.mono B7.size)
   have hrl9 := LogA.reads.below hrl7 N79
   have s9 := b9.lt
   simp only [LogA.cells] at *
   clear b37 oy7 ot2 B7 hrl7 N79 hb8 hb9 hs9 hv2 HT2 hjl hjv
   go_upto_region 14 with fail
   rw [hW9.out]
   clear hW9
   have p0 := b39.cell 0 _ rfl
   have q0 : W9.cell? ⟨w8.heap.size, 0, none⟩ = some (.slice t2.a j t2.c) := (b9.cell 0 _ rfl).trans (by rw [HJL.out])
   have hjb : ¬ (j : Int) > (l.recs.length : Int) := by omega
   have hje : ((j : Int) == (l.recs.length : Int)) = false := by have := HE3.out hpos; simp; omega
   have HPB : Hid (∀ u, Below W9.heap.size W9 u → u.cell? ⟨w1.heap.size, 0, none⟩ = some (.slice l.a l.recs.length l.c) ∧ u.cell? ⟨w1.heap.size, 1, none⟩ = some (.int .i64 l.sure) ∧ u.cell? ⟨w8.heap.size, 0, none⟩ = some (.slice t2.a j t2.c)) := fun u hu => ⟨(b39.below hu b39.lt).cell 0 _ rfl, (b39.below hu b39.lt).cell 1 _ rfl, ((b9.below hu b9.lt).cell 0 _ rfl).trans (by rw [HJL.out])⟩
   have HRA : Hid (∀ u, Below W9.heap.size W9 u → LogA.reads u l ∧ LogA.reads u t2) := fun u hu => ⟨LogA.reads.below hrl9 hu, (ot9.below hu).reads⟩
   clear b39 b9 ot9 hrl9
   go_wp2_with fail
   clear p0 q0
   go_loopw [10] (fun i wr => ∃ k : Nat, k ≤ j ∧ i = .int .i64 k ∧ Below W9.heap.size W9 wr) (fun i _ => j - (intOf i).toNat)
   case atStart => exact ⟨0, Nat.zero_le _, rfl, Below.refl _ _⟩
   case round =>
    obtain ⟨k, hk, rfl, hbl⟩ := hrel
    have hbm : Below w.heap.size w wr := B9.trans (hbl.mono B9.size)
    obtain ⟨x0, x1, x2⟩ := HPB.out wr hbl
    by_cases hlt : k < j
    ·obtain ⟨by_, oy_, hay, hcy⟩ := (HRA.out wr hbl).2 (by intro e; have h0 := HJL.out; rw [e] at h0; simp at h0; omega)
     obtain ⟨bl_, ol_, hal, hcl_⟩ := (HRA.out wr hbl).1 (by intro e; rw [e] at hj; simp at hj; omega)
     obtain ⟨ry1, ry2⟩ := hcy k (by rw [HJL.out]; exact hlt)
     obtain ⟨rl1, rl2⟩ := hcl_ k (by omega)
     have hvv := HJV.out k hlt
     have hyS : (t2.recs.getD k zeroR).short 1099511627776 := hjS.each _ (recD_mem _ k (by rw [HJL.out]; exact hlt))
     have hlS2 : (l.recs.getD k zeroR).short 1099511627776 := hlW.each _ (recD_mem _ k (by omega))
     have hpl := putRec_len (l.recs.getD k zeroR).v
     clear hcy hcl_
     generalize t2.recs.getD k zeroR = ry at *
     generalize l.recs.getD k zeroR = rl at *
     rw [hay] at x2
     rw [hal] at x0
     have HI : Hid ((Tryz.prog.info? 42).map (·.size) = some 15) := by rw [Hid]; kernel_rfl
     have HSS : Hid (∀ u, Below wr.heap.size wr u → ((u.cell? ⟨w8.heap.size, 0, none⟩ = some (.slice (some ⟨by_, oy_, none⟩) j t2.c) ∧ u.cell? ⟨w1.heap.size, 0, none⟩ = some (.slice (some ⟨bl_, ol_, none⟩) l.recs.length l.c)) ∧ u.rangeAt by_ (oy_ + k * 15) ry.cells) ∧ u.rangeAt bl_ (ol_ + k * 15) rl.cells) := fun u hu => ⟨⟨⟨(hu.cell (block_lt x2)).trans x2, (hu.cell (block_lt x0)).trans x0⟩, rangeAt_below ry1 hu (rangeR_lt ry1)⟩, rangeAt_below rl1 hu (rangeR_lt rl1)⟩
     have hkj : (k : Int) < (j : Int) := by omega
     have hkl : (k : Int) < (l.recs.length : Int) := by omega
     have hk0 : (0 : Int) ≤ (k : Int) := by omega
     have HRY : Hid (∀ u, Below wr.heap.size wr u → ry.reads u ∧ rl.reads u) := fun u hu => ⟨ry2.below hu, rl2.below hu⟩
     have HGW : Hid (∀ u, Below wr.heap.size wr u → ErrT u) := fun u hu => HGB.out u (hbm.trans (hu.mono hbm.size))
     have D0 : Below wr.heap.size wr wr.drew := (Below.refl _ _).drew
     clear x0 x1 ry1 rl1 ry2 rl2 hay hal
     go_wp2_with fail
     refine wp_region_held_drew (S := fun u => ((u.cell? ⟨w8.heap.size, 0, none⟩ = some (.slice (some ⟨by_, oy_, none⟩) j t2.c) ∧ u.cell? ⟨w1.heap.size, 0, none⟩ = some (.slice (some ⟨bl_, ol_, none⟩) l.recs.length l.c)) ∧ u.rangeAt by_ (oy_ + k * 15) ry.cells) ∧ u.rangeAt bl_ (ol_ + k * 15) rl.cells) (by kernel_rfl) ?_ (fun hHeld => ?_)
     ·exact HSS.out _ D0
     refine tk 0 (v := .pointer (some ⟨w8.heap.size, 0, none⟩)) rfl (Or.inl ⟨by rfl, ?_⟩) hHeld ?_
     ·intro w' hSw
      go_simp <;> rfl
     try simp only [Act.put, zA, zB, zD, zE, zF]
     refine tk 1 (v := .slice (some ⟨by_, oy_, none⟩) j t2.c) rfl (Or.inl ⟨by rfl, ?_⟩) hHeld ?_
     ·intro w' hSw
      have hx := hSw.1.1.1
      go_simp <;> rfl
     try simp only [Act.put, zA, zB, zC, zD, zE, zF]
     refine tk 2 (v := .int .i64 (k : Int)) rfl (Or.inl ⟨by rfl, ?_⟩) hHeld ?_
     ·intro w' hSw
      go_simp <;> rfl
     try simp only [Act.put, zA, zB, zC, zD, zE, zF]
     refine tk 3 (v := .pointer (some ⟨by_, oy_ + k * 15, none⟩)) rfl (Or.inl ⟨by rfl, ?_⟩) hHeld ?_
     ·intro w' hSw
      go_simp <;> rfl
     try simp only [Act.put, zA, zB, zC, zD, zE, zF]
     refine tk 4 rfl (yieldsIf_load_mid (by rfl) _ _ rfl _ _ rfl ry.cells _ (fun _ h => h.1.2) Tryz.underlying42 rfl HI.out) hHeld ?_
     try simp only [Act.put, zA, zB, zC, zD, zE, zF]
     refine tk 6 (v := .pointer (some ⟨w1.heap.size, 0, none⟩)) rfl (Or.inl ⟨by rfl, ?_⟩) hHeld ?_
     ·intro w' hSw
      go_simp <;> rfl
     try simp only [Act.put, zA, zB, zC, zD, zE, zF]
     refine tk 7 (v := .slice (some ⟨bl_, ol_, none⟩) l.recs.length l.c) rfl (Or.inl ⟨by rfl, ?_⟩) hHeld ?_
     ·intro w' hSw
      have hx := hSw.1.1.2
      go_simp <;> rfl
     try simp only [Act.put, zA, zB, zC, zD, zE, zF]
     refine tk 8 (v := .int .i64 (k : Int)) rfl (Or.inl ⟨by rfl, ?_⟩) hHeld ?_
     ·intro w' hSw
      go_simp <;> rfl
     try simp only [Act.put, zA, zB, zC, zD, zE, zF]
     refine tk 9 (v := .pointer (some ⟨bl_, ol_ + k * 15, none⟩)) rfl (Or.inl ⟨by rfl, ?_⟩) hHeld ?_
     ·intro w' hSw
      go_simp <;> rfl
     try simp only [Act.put, zA, zB, zC, zD, zE, zF]
     refine tk 10 rfl (yieldsIf_load_mid (by rfl) _ _ rfl _ _ rfl rl.cells _ (fun _ h => h.2) Tryz.underlying42 rfl HI.out) hHeld ?_
     try simp only [Act.put, zA, zB, zC, zD, zE, zF]
     refine wpAnyH_ready (rs := [5]) (by kernel_rfl) (by simp) ?_
     refine AllReadyH.cons rfl (fun K hK => ?_) AllReadyH.nil
     go_simp
     refine (implPutRec_any ry _ (HGW.out _ D0) (HRY.out _ D0).1 hyS).mono ?_
     rintro e u1 ⟨a5, c5, y5, rfl, hy5, o5, hb5⟩
     have D1 : Below wr.heap.size wr u1 := D0.trans (hb5.mono D0.size)
     refine hK.out _ _ (HSS.out _ D1) (fun hHeld => ?_)
     clear hK K
     try simp only [Act.put, zA, zB, zC, zD, zE, zF]
     refine wpAnyH_ready (rs := [11]) (by kernel_rfl) (by simp) ?_
     refine AllReadyH.cons rfl (fun K hK => ?_) AllReadyH.nil
     go_simp
     refine (specPutRec_any rl _ (HRY.out _ D1).2 hlS2).mono ?_
     rintro e u2 ⟨a6, c6, y6, rfl, hy6, o6, hb6⟩
     have D2 : Below wr.heap.size wr u2 := D1.trans (hb6.mono D1.size)
     refine hK.out _ _ (HSS.out _ D2) (fun hHeld => ?_)
     clear hK K
     try simp only [Act.put, zA, zB, zC, zD, zE, zF]
     have o52 := o5.below hb6
     obtain rfl : y6 = y5 := by rw [hy6.out, hy5.out, hvv]
     refine wpAnyH_ready (rs := [12]) (by kernel_rfl) (by simp) ?_
     refine AllReadyH.cons rfl (fun K hK => ?_) AllReadyH.nil
     go_simp
     refine (sameBytes_same a5 a6 c5 c6 y6 u2 o52.reads o6.reads (by rw [hy6.out]; omega)).mono ?_
     rintro e u3 ⟨rfl, nq, hu3⟩
     rw [hu3]
     have D3 : Below wr.heap.size wr (u2.drewN nq) := below_drewN D2 nq
     refine hK.out _ _ (HSS.out _ D3) (fun hHeld => ?_)
     clear hK K
     try simp only [Act.put, zA, zB, zC, zD, zE, zF]
     refine tk 13 (v := .bool false) rfl (Or.inl ⟨by rfl, ?_⟩) hHeld ?_
     ·intro w' hSw
      go_simp <;> rfl
     try simp only [Act.put, zA, zB, zC, zD, zE, zF]
     refine wpAnyH_done (by kernel_rfl) ?_ _
     go_wp2_with fail
     go_roundw
     case rel => exact ⟨k + 1, by omega, by go_num, hbl.trans (D3.mono hbl.size)⟩
     case measure => simp [intOf]; omega
    ·have C := implLogOk_any l wr (HGB.out _ hbm) (HRA.out wr hbl).1 hlW
     rw [HOKL.out] at C
     simp only [LogA.cells] at C
     go_wp2_with fail
     refine C.mono ?_
     rintro e w10 ⟨rfl, hb10⟩
     go_wp2_with fail
     go_ret
     exact ⟨rfl, hbm.trans (hb10.mono hbm.size)⟩
  ·have hy0 : ys = [] := by
    cases ys with
    | nil => rfl
    | cons y r => simp at hpos
   subst hy0
   have HJ := HCUT.out 0 (.inr ⟨rfl, rfl⟩)
   have hlc : (([] : List Int).take 0).length = 0 := by simp
   have hrc := reads_take oy7.reads 0
   have C := implReadLog_any ab cb (([] : List Int).take 0) w7 (HGB.out _ B7) hrc (by rw [hlc]; omega) (by rw [hlc]; omega)
   rw [hlc] at C
   obtain ⟨j, hj, e1, e2, e3⟩ := HJ
   have HT2 : Hid (∀ t2 : LogA, t2.v = ⟨(readLogOf (([] : List Int).take 0)).1, (readLogOf (([] : List Int).take 0)).1.length⟩ → t2.recs.length = j ∧ (∀ k, k < j → (t2.recs.getD k zeroR).v = (l.recs.getD k zeroR).v) ∧ t2.short 1099511627776) := fun t2 h2 => by
    rw [e1] at h2
    have h3 : t2.recs.map RecA.v = (l.recs.map RecA.v).take j := congrArg LogV.recs h2
    have h4 : t2.recs.length = j := by
     have := congrArg List.length h3
     simp only [List.length_map, List.length_take] at this
     omega
    refine ⟨h4, fun k hk => ?_, by rw [h4]; omega, fun y hy => ?_⟩
    ·have := congrArg (fun x => x[k]?) h3
     have hk2 : k < t2.recs.length := by omega
     have hk3 : k < l.recs.length := by omega
     simpa [List.getD, hk, hk2, hk3] using this
    ·have hm : y.v ∈ t2.recs.map RecA.v := List.mem_map.2 ⟨y, hy, rfl⟩
     rw [h3] at hm
     obtain ⟨z, hz, e⟩ := List.mem_map.1 (List.mem_of_mem_take hm)
     exact short_of e.symm (hlW.each z hz)
   simp only [LogGot] at C
   have hmid : ¬ (readLogOf (([] : List Int).take 0)).2 > ((0 : Nat) : Int) := by simpa using e2
   have HE3 : Hid (0 < ([] : List Int).length → j ≠ l.recs.length) := e3
   generalize (readLogOf (([] : List Int).take 0)).2 = mid at *
   clear e1 e2 e3 HCUT hrc hlc
   go_wp2_with fail
   refine C.mono ?_
   clear C q0 q1
   rintro e w8 ⟨t2, rfl, hv2, ot2, hb8⟩
   obtain ⟨hjl, hjv, hjS⟩ := HT2.out t2 hv2.out
   have HJL : Hid (t2.recs.length = j) := hjl
   have HJV : Hid (∀ k, k < j → (t2.recs.getD k zeroR).v = (l.recs.getD k zeroR).v) := hjv
   have s8 := hb8.size
   obtain ⟨W9, hW9, b9, hb9, hs9⟩ := boxes1 w8 [.slice t2.a t2.recs.length t2.c, .int .i64 t2.sure] 26
   have N79 : Below w7.heap.size w7 W9 := hb8.trans (hb9.mono hb8.size)
   have b39 := b37.below N79 b37.lt
   have ot9 := LogA.own.below ot2 hb9
   have B9 : Below w.heap.size w W9 := B7.trans (N79.mono B7.size)
   have hrl9 := LogA.reads.below hrl7 N79
   have s9 := b9.lt
   simp only [LogA.cells] at *
   clear b37 oy7 ot2 B7 hrl7 N79 hb8 hb9 hs9 hv2 HT2 hjl hjv
   go_upto_region 14 with fail
   rw [hW9.out]
   clear hW9
   have p0 := b39.cell 0 _ rfl
   have q0 : W9.cell? ⟨w8.heap.size, 0, none⟩ = some (.slice t2.a j t2.c) := (b9.cell 0 _ rfl).trans (by rw [HJL.out])
   have hjb : ¬ (j : Int) > (l.recs.length : Int) := by omega
   have HPB : Hid (∀ u, Below W9.heap.size W9 u → u.cell? ⟨w1.heap.size, 0, none⟩ = some (.slice l.a l.recs.length l.c) ∧ u.cell? ⟨w1.heap.size, 1, none⟩ = some (.int .i64 l.sure) ∧ u.cell? ⟨w8.heap.size, 0, none⟩ = some (.slice t2.a j t2.c)) := fun u hu => ⟨(b39.below hu b39.lt).cell 0 _ rfl, (b39.below hu b39.lt).cell 1 _ rfl, ((b9.below hu b9.lt).cell 0 _ rfl).trans (by rw [HJL.out])⟩
   have HRA : Hid (∀ u, Below W9.heap.size W9 u → LogA.reads u l ∧ LogA.reads u t2) := fun u hu => ⟨LogA.reads.below hrl9 hu, (ot9.below hu).reads⟩
   clear b39 b9 ot9 hrl9
   go_wp2_with fail
   clear p0 q0
   go_loopw [10] (fun i wr => ∃ k : Nat, k ≤ j ∧ i = .int .i64 k ∧ Below W9.heap.size W9 wr) (fun i _ => j - (intOf i).toNat)
   case atStart => exact ⟨0, Nat.zero_le _, rfl, Below.refl _ _⟩
   case round =>
    obtain ⟨k, hk, rfl, hbl⟩ := hrel
    have hbm : Below w.heap.size w wr := B9.trans (hbl.mono B9.size)
    obtain ⟨x0, x1, x2⟩ := HPB.out wr hbl
    by_cases hlt : k < j
    ·obtain ⟨by_, oy_, hay, hcy⟩ := (HRA.out wr hbl).2 (by intro e; have h0 := HJL.out; rw [e] at h0; simp at h0; omega)
     obtain ⟨bl_, ol_, hal, hcl_⟩ := (HRA.out wr hbl).1 (by intro e; rw [e] at hj; simp at hj; omega)
     obtain ⟨ry1, ry2⟩ := hcy k (by rw [HJL.out]; exact hlt)
     obtain ⟨rl1, rl2⟩ := hcl_ k (by omega)
     have hvv := HJV.out k hlt
     have hyS : (t2.recs.getD k zeroR).short 1099511627776 := hjS.each _ (recD_mem _ k (by rw [HJL.out]; exact hlt))
     have hlS2 : (l.recs.getD k zeroR).short 1099511627776 := hlW.each _ (recD_mem _ k (by omega))
     have hpl := putRec_len (l.recs.getD k zeroR).v
     clear hcy hcl_
     generalize t2.recs.getD k zeroR = ry at *
     generalize l.recs.getD k zeroR = rl at *
     rw [hay] at x2
     rw [hal] at x0
     have HI : Hid ((Tryz.prog.info? 42).map (·.size) = some 15) := by rw [Hid]; kernel_rfl
     have HSS : Hid (∀ u, Below wr.heap.size wr u → ((u.cell? ⟨w8.heap.size, 0, none⟩ = some (.slice (some ⟨by_, oy_, none⟩) j t2.c) ∧ u.cell? ⟨w1.heap.size, 0, none⟩ = some (.slice (some ⟨bl_, ol_, none⟩) l.recs.length l.c)) ∧ u.rangeAt by_ (oy_ + k * 15) ry.cells) ∧ u.rangeAt bl_ (ol_ + k * 15) rl.cells) := fun u hu => ⟨⟨⟨(hu.cell (block_lt x2)).trans x2, (hu.cell (block_lt x0)).trans x0⟩, rangeAt_below ry1 hu (rangeR_lt ry1)⟩, rangeAt_below rl1 hu (rangeR_lt rl1)⟩
     have hkj : (k : Int) < (j : Int) := by omega
     have hkl : (k : Int) < (l.recs.length : Int) := by omega
     have hk0 : (0 : Int) ≤ (k : Int) := by omega
     have HRY : Hid (∀ u, Below wr.heap.size wr u → ry.reads u ∧ rl.reads u) := fun u hu => ⟨ry2.below hu, rl2.below hu⟩
     have HGW : Hid (∀ u, Below wr.heap.size wr u → ErrT u) := fun u hu => HGB.out u (hbm.trans (hu.mono hbm.size))
     have D0 : Below wr.heap.size wr wr.drew := (Below.refl _ _).drew
     clear x0 x1 ry1 rl1 ry2 rl2 hay hal
     go_wp2_with fail
     refine wp_region_held_drew (S := fun u => ((u.cell? ⟨w8.heap.size, 0, none⟩ = some (.slice (some ⟨by_, oy_, none⟩) j t2.c) ∧ u.cell? ⟨w1.heap.size, 0, none⟩ = some (.slice (some ⟨bl_, ol_, none⟩) l.recs.length l.c)) ∧ u.rangeAt by_ (oy_ + k * 15) ry.cells) ∧ u.rangeAt bl_ (ol_ + k * 15) rl.cells) (by kernel_rfl) ?_ (fun hHeld => ?_)
     ·exact HSS.out _ D0
     refine tk 0 (v := .pointer (some ⟨w8.heap.size, 0, none⟩)) rfl (Or.inl ⟨by rfl, ?_⟩) hHeld ?_
     ·intro w' hSw
      go_simp <;> rfl
     try simp only [Act.put, zA, zB, zD, zE, zF]
     refine tk 1 (v := .slice (some ⟨by_, oy_, none⟩) j t2.c) rfl (Or.inl ⟨by rfl, ?_⟩) hHeld ?_
     ·intro w' hSw
      have hx := hSw.1.1.1
      go_simp <;> rfl
     try simp only [Act.put, zA, zB, zC, zD, zE, zF]
     refine tk 2 (v := .int .i64 (k : Int)) rfl (Or.inl ⟨by rfl, ?_⟩) hHeld ?_
     ·intro w' hSw
      go_simp <;> rfl
     try simp only [Act.put, zA, zB, zC, zD, zE, zF]
     refine tk 3 (v := .pointer (some ⟨by_, oy_ + k * 15, none⟩)) rfl (Or.inl ⟨by rfl, ?_⟩) hHeld ?_
     ·intro w' hSw
      go_simp <;> rfl
     try simp only [Act.put, zA, zB, zC, zD, zE, zF]
     refine tk 4 rfl (yieldsIf_load_mid (by rfl) _ _ rfl _ _ rfl ry.cells _ (fun _ h => h.1.2) Tryz.underlying42 rfl HI.out) hHeld ?_
     try simp only [Act.put, zA, zB, zC, zD, zE, zF]
     refine tk 6 (v := .pointer (some ⟨w1.heap.size, 0, none⟩)) rfl (Or.inl ⟨by rfl, ?_⟩) hHeld ?_
     ·intro w' hSw
      go_simp <;> rfl
     try simp only [Act.put, zA, zB, zC, zD, zE, zF]
     refine tk 7 (v := .slice (some ⟨bl_, ol_, none⟩) l.recs.length l.c) rfl (Or.inl ⟨by rfl, ?_⟩) hHeld ?_
     ·intro w' hSw
      have hx := hSw.1.1.2
      go_simp <;> rfl
     try simp only [Act.put, zA, zB, zC, zD, zE, zF]
     refine tk 8 (v := .int .i64 (k : Int)) rfl (Or.inl ⟨by rfl, ?_⟩) hHeld ?_
     ·intro w' hSw
      go_simp <;> rfl
     try simp only [Act.put, zA, zB, zC, zD, zE, zF]
     refine tk 9 (v := .pointer (some ⟨bl_, ol_ + k * 15, none⟩)) rfl (Or.inl ⟨by rfl, ?_⟩) hHeld ?_
     ·intro w' hSw
      go_simp <;> rfl
     try simp only [Act.put, zA, zB, zC, zD, zE, zF]
     refine tk 10 rfl (yieldsIf_load_mid (by rfl) _ _ rfl _ _ rfl rl.cells _ (fun _ h => h.2) Tryz.underlying42 rfl HI.out) hHeld ?_
     try simp only [Act.put, zA, zB, zC, zD, zE, zF]
     refine wpAnyH_ready (rs := [5]) (by kernel_rfl) (by simp) ?_
     refine AllReadyH.cons rfl (fun K hK => ?_) AllReadyH.nil
     go_simp
     refine (implPutRec_any ry _ (HGW.out _ D0) (HRY.out _ D0).1 hyS).mono ?_
     rintro e u1 ⟨a5, c5, y5, rfl, hy5, o5, hb5⟩
     have D1 : Below wr.heap.size wr u1 := D0.trans (hb5.mono D0.size)
     refine hK.out _ _ (HSS.out _ D1) (fun hHeld => ?_)
     clear hK K
     try simp only [Act.put, zA, zB, zC, zD, zE, zF]
     refine wpAnyH_ready (rs := [11]) (by kernel_rfl) (by simp) ?_
     refine AllReadyH.cons rfl (fun K hK => ?_) AllReadyH.nil
     go_simp
     refine (specPutRec_any rl _ (HRY.out _ D1).2 hlS2).mono ?_
     rintro e u2 ⟨a6, c6, y6, rfl, hy6, o6, hb6⟩
     have D2 : Below wr.heap.size wr u2 := D1.trans (hb6.mono D1.size)
     refine hK.out _ _ (HSS.out _ D2) (fun hHeld => ?_)
     clear hK K
     try simp only [Act.put, zA, zB, zC, zD, zE, zF]
     have o52 := o5.below hb6
     obtain rfl : y6 = y5 := by rw [hy6.out, hy5.out, hvv]
     refine wpAnyH_ready (rs := [12]) (by kernel_rfl) (by simp) ?_
     refine AllReadyH.cons rfl (fun K hK => ?_) AllReadyH.nil
     go_simp
     refine (sameBytes_same a5 a6 c5 c6 y6 u2 o52.reads o6.reads (by rw [hy6.out]; omega)).mono ?_
     rintro e u3 ⟨rfl, nq, hu3⟩
     rw [hu3]
     have D3 : Below wr.heap.size wr (u2.drewN nq) := below_drewN D2 nq
     refine hK.out _ _ (HSS.out _ D3) (fun hHeld => ?_)
     clear hK K
     try simp only [Act.put, zA, zB, zC, zD, zE, zF]
     refine tk 13 (v := .bool false) rfl (Or.inl ⟨by rfl, ?_⟩) hHeld ?_
     ·intro w' hSw
      go_simp <;> rfl
     try simp only [Act.put, zA, zB, zC, zD, zE, zF]
     refine wpAnyH_done (by kernel_rfl) ?_ _
     go_wp2_with fail
     go_roundw
     case rel => exact ⟨k + 1, by omega, by go_num, hbl.trans (D3.mono hbl.size)⟩
     case measure => simp [intOf]; omega
    ·have C := implLogOk_any l wr (HGB.out _ hbm) (HRA.out wr hbl).1 hlW
     rw [HOKL.out] at C
     simp only [LogA.cells] at C
     go_wp2_with fail
     refine C.mono ?_
     rintro e w10 ⟨rfl, hb10⟩
     go_wp2_with fail
     go_ret
     exact ⟨rfl, hbm.trans (hb10.mono hbm.size)⟩
end Go.Proofs.YtickiokdcbeefaaGreatDoor
namespace Go.Proofs.YtickiokdcbeefaaGreatDoor
open Go.ChangeShapes Go.WideShapes Go.RowKit
theorem Tryz.et : Tryz.prog.globalNamed "errors.errorType" = some 0 := by kernel_rfl
theorem Tryz.rt : (Tryz.prog.cutTypes.find? (·.1 == "internal/reflectlite.rtype")).map (·.2) = some 211 := by kernel_rfl
theorem Tryz.oneRow : ((List.range 254).filter fun t => Tryz.prog.rowNamed t [101, 114, 114, 111, 114]) = [146] := by kernel_rfl
theorem Tryz.typesSize : Tryz.prog.types.size = 254 := by kernel_rfl
theorem errT_of_handles {W : World} {laid : List (String × DataW Unit)} (hm : ("errors.errorType", Rows.laid_errors_errorType) ∈ laid) (h : handlesMet Tryz.prog laid W) : ErrT W := by
 obtain ⟨name, u, ty, e1, e2, e3, e4, e5⟩ := h _ hm
 have en : name = [101, 114, 114, 111, 114] := (Option.some.inj e1).symm
 subst en
 obtain rfl := Option.some.inj (Tryz.rt.symm.trans e2)
 have hm : ty ∈ (List.range 254).filter fun t => Tryz.prog.rowNamed t [101, 114, 114, 111, 114] := List.mem_filter.2 ⟨List.mem_range.2 (by rw [← Tryz.typesSize]; exact e3), e4⟩
 rw [Tryz.oneRow] at hm
 obtain rfl := List.mem_singleton.1 hm
 have hh : typeHandle Tryz.prog 146 = .pointer (some ⟨1, 146, none⟩) := by kernel_rfl
 rw [hh] at e5
 unfold ErrT
 simpa using World.var?_cell Tryz.et e5 0
def laid1 : List (String × DataW Unit) := [("errors.errorType", Rows.laid_errors_errorType)]
theorem errT_of_laid1 {W : World} (h : laidMetH Tryz.prog laid1 W) : ErrT W := by
 have h' : laidMet Tryz.prog [] W ∧ handlesMet Tryz.prog laid1 W := h
 exact errT_of_handles (List.mem_singleton.2 rfl) h'.2
end Go.Proofs.YtickiokdcbeefaaGreatDoor