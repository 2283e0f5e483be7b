/- Several texts in one, in their order. -/
import Derived.Test.YtpgeemdjghkjiabGreatDoorPCrashx4
import Derived.Test.YtpgeemdjghkjiabGreatDoorPCrashx6
import Derived.Test.YtpgeemdjghkjiabGreatDoorPCrashx10
import Derived.Test.YtpgeemdjghkjiabGreatDoorPCrashx8
import Derived.Test.YtpgeemdjghkjiabGreatDoorPCrashx7
import Derived.Test.YtpgeemdjghkjiabGreatDoorPCrashx11
import Derived.Test.YtpgeemdjghkjiabGreatDoorPCrashx13
import Derived.Deep.Cut
import Derived.Test.YtpgeemdjghkjiabGreatDoorPCrashx12
import Derived.Test.YtpgeemdjghkjiabGreatDoorPCrashx9
import Derived.Test.YtpgeemdjghkjiabGreatDoorPCrashx5
import Derived.Test.YtpgeemdjghkjiabGreatDoorPCrashx1
set_option maxHeartbeats 8000000
set_option maxRecDepth 100000
namespace Go.Proofs.YtpgeemdjghkjiabGreatDoor
open Go.RowKit
theorem copyPage_own (p : PageA) (h4 : p.ss.length = 4) (w : World) (hr : ReadsS w p.ss) (hl : Fit p.ss) :
  Calls Tryz.prog 78 #[.agg p.cells.toArray] w fun e w' => ∃ ts : List SlotA, e = .returned (.agg (PageA.cells ⟨p.lsn, ts⟩).toArray) ∧ Hid (ts.map (·.v) = p.ss.map (·.v)) ∧ OwnS w' w.heap.size w'.heap.size ts ∧ Below w.heap.size w w' := by
 obtain ⟨n, ss⟩ := p
 simp only [PageA.cells] at *
 obtain ⟨W, hW, b0, b1, b2, hbW, hsW⟩ := boxes3 w (.int .i64 n :: cellsS ss) [.int .i64 0, .bool false, .int .i64 0, .slice none 0 0, .slice none 0 0, .bool false, .int .i64 0, .slice none 0 0, .slice none 0 0, .bool false, .int .i64 0, .slice none 0 0, .slice none 0 0, .bool false, .int .i64 0, .slice none 0 0, .slice none 0 0] [.int .i64 n, .bool false, .int .i64 0, .slice none 0 0, .slice none 0 0, .bool false, .int .i64 0, .slice none 0 0, .slice none 0 0, .bool false, .int .i64 0, .slice none 0 0, .slice none 0 0, .bool false, .int .i64 0, .slice none 0 0, .slice none 0 0] 47 47 47
 have b1' : Box W (w.heap.size + 1) ([] ++ ((.int .i64 0 :: cellsS zero4) ++ [])) 47 := b1
 have b2' : Box W (w.heap.size + 1 + 1) (.int .i64 n :: cellsS ([] ++ List.replicate (4 - 0) zeroS)) 47 := b2
 have hsW' : w.heap.size + 1 + 1 < W.heap.size := by omega
 have hc0 : (((w.alloc (.cells (.int .i64 n :: cellsS ss).toArray 47)).alloc (.cells #[.int .i64 0, .bool false, .int .i64 0, .slice none 0 0, .slice none 0 0, .bool false, .int .i64 0, .slice none 0 0, .slice none 0 0, .bool false, .int .i64 0, .slice none 0 0, .slice none 0 0, .bool false, .int .i64 0, .slice none 0 0, .slice none 0 0] 47))).cell? ⟨w.heap.size, 0, none⟩ = some (.int .i64 n) := ((box_new w (.int .i64 n :: cellsS ss) 47).alloc _).cell 0 _ rfl
 have hrg0 : W.rangeAt w.heap.size 1 (cellsS ss) := Box.range [.int .i64 n] (cellsS ss) [] (by simpa using b0)
 have hi0 : (Tryz.prog.info? 45).map (·.size) = some (cellsS ss).length := by rw [cellsS_len, h4]; kernel_rfl
 have HX := run_index_slot ss h4
 have H4 : Hid (ss.length = 4) := h4
 clear b1 b2 hsW h4
 go_enter Tryz.func78, Tryz.ntmps78
 go_wp2_with (first | (guard_target = wpList _ _ _ (Oper.mk (some 10) _ _ _ _ _ :: _) _ _; refine wpList_load_mid rfl 45 (.tmp 9) rfl w.heap.size 1 rfl (cellsS ss) _ (by rw [hW.out]; exact hrg0) Tryz.underlying45 rfl hi0 ?_) | fail)
 rw [hW.out]
 clear hW hrg0 hi0 hc0
 go_loopw [11] (fun i wr => ∃ (k : Nat) (ts : List SlotA), i = .int .i64 k ∧ k ≤ 4 ∧ Hid (ts.length = k ∧ ts.map (·.v) = (ss.take k).map (·.v)) ∧ OwnS wr W.heap.size wr.heap.size ts ∧ Box wr (w.heap.size + 1 + 1) (.int .i64 n :: cellsS (ts ++ List.replicate (4 - k) zeroS)) 47 ∧ Below (w.heap.size + 1 + 1) W wr)
  (fun i _ => 4 - (intOf i).toNat)
 case atStart => exact ⟨0, [], rfl, by omega, ⟨rfl, rfl⟩, OwnS.nil _ _ _, b2', Below.refl _ _⟩
 case round =>
  obtain ⟨k, ts, rfl, hk, hts, hown, hbox, hbl⟩ := hrel
  clear b2'
  have b1r := b1'.below hbl (by omega)
  have hsr := hbl.size
  have hsz := hbox.lt
  by_cases hlt : k < 4
  ·have hkl : k < ss.length := by rw [H4.out]; exact hlt
   have hx := HX k hlt
   clear HX
   have hrk := (hr _ (getD_mem hkl)).below (hbW.trans (hbl.mono (by omega)))
   have hlk := hl _ (getD_mem hkl)
   have HV : Hid ((ss.take (k + 1)).map (·.v) = (ss.take k).map (·.v) ++ [(ss.getD k zeroS).v]) := by
    rw [Hid, List.take_add_one, List.map_append]
    simp [List.getD, hkl]
   generalize ss.getD k zeroS = s at *
   simp only [SlotA.cells] at hx
   obtain ⟨W1, hW1, bx, hbx1, hsx1⟩ := boxes1 wr [.bool s.v.has, .int .i64 s.v.o.kind, .slice s.aI s.v.o.ints.length s.cI, .slice s.aR s.v.o.refs.length s.cR] 44
   have C := copySlot_own s W1 (ReadsO.below hrk hbx1) hlk.1 hlk.2
   simp only [SlotA.cells] at C
   go_wp2_with fail
   rw [hW1.out]
   refine C.mono ?_
   clear C hx hrk hlk
   rintro e w1 ⟨t, rfl, hv, ho, hb1⟩
   have hs1 := hb1.size
   have N1 : Below wr.heap.size wr w1 := hbx1.trans (hb1.mono (by omega))
   have hbx := hbox.below N1 hsz
   have hkt : k < (ts ++ List.replicate (4 - k) zeroS).length := by have := hts.out.1; simp; omega
   obtain ⟨W2, hW2, b2, hw2, hs2⟩ := pslot_fill hbx k hkt t
   obtain ⟨x0, x1, x2, x3, hfz⟩ := hbx.pslot k hkt
   have f0 := hfz (1 + k * 4)
   have f1 := hfz (1 + k * 4 + 1)
   have f2 := hfz (1 + k * 4 + 2)
   have f3 := hfz (1 + k * 4 + 3)
   generalize (ts ++ List.replicate (4 - k) zeroS).getD k zeroS = old at *
   have b2' : Box W2 (w.heap.size + 1 + 1) (.int .i64 n :: cellsS ((ts ++ [t]) ++ List.replicate (4 - (k + 1)) zeroS)) 47 := by
    rw [show 4 - k = (4 - (k + 1)) + 1 by omega] at b2
    have e := set_snoc ts (4 - (k + 1)) t
    rw [hts.out.1] at e
    rw [e] at b2
    exact b2
   have hown1 : OwnS w1 W.heap.size W1.heap.size ts := (hown.below N1).widen (Nat.le_refl _) (by omega) (by omega)
   have hO1 : OwnS w1 W.heap.size w1.heap.size (ts ++ [t]) := hown1.snoc ho (by omega) hs1 (Nat.le_refl _)
   have hO2 : OwnS W2 W.heap.size W2.heap.size (ts ++ [t]) := (hO1.within hw2 (.inr (by omega))).widen (Nat.le_refl _) (by omega) (Nat.le_refl _)
   have hB2 : Below (w.heap.size + 1 + 1) W W2 := (hbl.trans (N1.mono (by omega))).trans (hw2.below (Nat.le_refl _) (by omega))
   have HT : Hid ((ts ++ [t]).length = k + 1 ∧ (ts ++ [t]).map (·.v) = (ss.take (k + 1)).map (·.v)) := by
    refine ⟨by have := hts.out.1; simp; omega, ?_⟩
    rw [HV.out, List.map_append, hts.out.2, ← hv.out]
    rfl
   have hi0 : (0 : Int) ≤ (k : Int) := by omega
   have hi4 : (k : Int) < 4 := by omega
   clear hfz hs2 hw2 b2 hO1 hown hown1 hbox hbx hts HV hkt hb1 ho N1 hbx1
   go_wp2_with fail
   rw [hW2.out]
   go_roundw
   case rel => exact ⟨k + 1, ts ++ [t], by go_num, by omega, HT, hO2, b2', hB2⟩
   case measure => simp [intOf]; omega
  ·obtain rfl : k = 4 := by omega
   have hkk : ¬ ((4 : Nat) : Int) < 4 := by omega
   have hrp : ts ++ List.replicate (4 - 4) zeroS = ts := by simp
   rw [hrp] at hbox
   have htl : ts.length = 4 := hts.out.1
   have HMV : Hid (ts.map (·.v) = ss.map (·.v)) := by rw [Hid, hts.out.2, List.take_of_length_le (by rw [H4.out]; omega)]
   obtain ⟨WF, hWF, bF, hwF, hsF⟩ := range_fill [] (.int .i64 0 :: cellsS zero4) (.int .i64 n :: cellsS ts) [] b1r (by simp only [List.length_cons, cellsS_len, htl]; rfl)
   have HWF : Hid (wr.setCells (w.heap.size + 1) 0 (.int .i64 n :: cellsS ts) = WF) := hWF.out
   have HR2 : Hid (wr.rangeAt (w.heap.size + 1 + 1) 0 (.int .i64 n :: cellsS ts)) := Box.range [] (.int .i64 n :: cellsS ts) [] (by simpa using hbox)
   have HTF : Hid (wr.there (w.heap.size + 1) 0 (.int .i64 n :: cellsS ts).toArray.size) := b1r.there 0 _ (by simp only [List.size_toArray, cellsS_len, htl, List.length_append, List.length_cons, List.length_nil]; decide)
   have hrF : WF.rangeAt (w.heap.size + 1) 0 (.int .i64 n :: cellsS ts) := Box.range [] (.int .i64 n :: cellsS ts) [] (by simpa using bF)
   have HI : Hid ((Tryz.prog.info? 47).map (·.size) = some (.int .i64 n :: cellsS ts).length) := by rw [Hid, List.length_cons, cellsS_len, htl]; kernel_rfl
   have HO : Hid (_) := all_oneCell_toArray (oneP ⟨n, ts⟩)
   have HLF : Hid (_) := run_loadVar_mid (P := Tryz.prog) _ (w.heap.size + 1) 0 47 (.int .i64 n :: cellsS ts) _ hrF Tryz.underlying47 rfl HI.out
   have HOF : Hid (OwnS WF w.heap.size WF.heap.size ts) := (hown.within hwF (.inr (by omega))).widen (by omega) (by omega) (Nat.le_refl _)
   have HBF : Hid (Below w.heap.size w WF) := (hbW.trans (hbl.mono (by omega))).trans (hwF.below (by omega) (by omega))
   simp only [PageA.cells] at HO
   clear hWF bF hwF hsF hrF hrp htl hbox hown HX hts
   go_wp2_with (first | (guard_target = wpList _ _ _ (Oper.mk (some 21) _ _ _ _ _ :: _) _ _; refine wpList_load_mid rfl 47 (.tmp 3) rfl (w.heap.size + 1 + 1) 0 rfl (.int .i64 n :: cellsS ts) _ HR2.out Tryz.underlying47 rfl HI.out ?_) | (guard_target = wpList _ _ _ (Oper.mk none (Op.store _ (Operand.tmp 2) _) _ _ _ _ :: _) _ _; refine wpList_store_mid rfl 47 (.tmp 2) (.tmp 21) rfl (w.heap.size + 1) 0 (.int .i64 n :: cellsS ts).toArray rfl rfl HTF.out (by rw [List.size_toArray]; exact HI.out) HO.out ?_) | fail)
   rw [HWF.out]
   exact bodyPost_ret (v := .agg (.int .i64 n :: cellsS ts).toArray) (results_one Tryz.results78 rfl HLF.out) rfl ⟨ts, rfl, HMV, HOF.out, HBF.out⟩
theorem build_seats1 {w : World} {ops : Array Oper} {rest : List Oper} {dst : Option Nat} {ty : TypeId} {pos : String} {aft : Array Edge} {act : Act} {Q : Exit → Act → World → Prop} (x : Operand)
  (q : SeatA) (hx : act.eval x = .agg q.cells.toArray)
  (h : wpList Tryz.prog ops Q rest (act.put dst (.slice (some ⟨w.heap.size, 0, none⟩) 1 1)) (w.alloc (.cells q.cells.toArray 149))) :
  wpList Tryz.prog ops Q ({ dst := dst, op := .buildSlice 49 1 #[(0, x)], type := ty, pos := pos, after := aft, guard := none } :: rest) act w := by
 refine wpList_plain rfl fun K hK => ?_
 unfold Oper.wp execOp
 simp only [List.map_toArray, List.map_cons, List.map_nil, hx]
 go_simp
 simp only [cellsSt_len, lit_seat, not_true_eq_false, Nat.lt_irrefl, or_self, if_false]
 go_simp
 exact hK _ _ h
theorem copyPool_any (l : PoolA) (w : World) (hr : l.reads w) (hl : l.short 1048576) :
  Calls Tryz.prog 79 #[.agg l.cells.toArray] w fun e w' => ∃ t : PoolA, e = .returned (.agg t.cells.toArray) ∧ Hid (t.v = l.v) ∧ t.own w' w.heap.size w'.heap.size ∧ Below w.heap.size w w' := by
 obtain ⟨rs, s, a, c⟩ := l
 have hl2 := (PoolA.short_wide hl).each
 have hl0 := hl.len
 simp only [PoolA.reads, PoolA.cells, PoolA.own] at *
 obtain ⟨W, hW, b0, b1, b2, hbW, hsW⟩ := boxes3 w [.slice a rs.length c, .int .i64 s] [.slice none 0 0, .int .i64 0] [.slice none 0 0, .int .i64 s] 51 51 51
 have hs0 : w.heap.size + 1 + 1 < W.heap.size := by omega
 clear hsW
 have x0 := b0.cell 0 _ rfl
 have HC : Hid (∀ k, k < rs.length → ∃ b off, a = some ⟨b, off, none⟩ ∧ w.rangeAt b (off + k * 20) (rs.getD k zeroSt).cells ∧ (rs.getD k zeroSt).reads w ∧ (rs.getD k zeroSt).short 1099511627776) := fun k hk => by
  obtain ⟨b, off, ha, hc⟩ := hr (by intro e; rw [e] at hk; simp at hk)
  exact ⟨b, off, ha, (hc k hk).1, (hc k hk).2, hl2 _ (seatD_mem rs k hk)⟩
 have HJ : Hid ((Tryz.prog.info? 149).map (·.size) = some 20) := by rw [Hid]; kernel_rfl
 clear hr hl hl2
 go_enter Tryz.func79, Tryz.ntmps79
 go_wp2_with fail
 rw [hW.out]
 clear hW x0
 go_loopw [12] (fun i wr => ∃ (k : Nat) (ts : List SeatA) (a' : Option Addr) (c' : Nat), k ≤ rs.length ∧ i = .int .i64 k ∧ Hid (CameSt rs ts k) ∧ Box wr (w.heap.size + 1 + 1) [.slice a' ts.length c', .int .i64 s] 51 ∧ Box wr (w.heap.size + 1) [.slice none 0 0, .int .i64 0] 51 ∧ OwnSts wr W.heap.size wr.heap.size a' c' ts ∧ Below w.heap.size w wr ∧ W.heap.size ≤ wr.heap.size)
  (fun i _ => rs.length - (intOf i).toNat)
 case atStart => exact ⟨0, [], none, 0, Nat.zero_le _, rfl, cameSt_none rs, b2, b1, ownSts_nil _ _ _ (Nat.le_refl _), hbW, Nat.le_refl _⟩
 case round =>
  obtain ⟨k, ts, a', c', hk, rfl, hc, k2, k1, hown, hnx, hsz⟩ := hrel
  clear b0 b1 b2 hbW
  by_cases hlt : k < rs.length
  ·obtain ⟨b, off, rfl, hcell, hrd, hsh⟩ := HC.out k hlt
   have hnw := hnx.size
   have HRG : Hid (wr.rangeAt b (off + k * 20) (rs.getD k zeroSt).cells) := rangeAt_below hcell hnx (rangeSt_lt hcell)
   have HS : Hid (∀ q : SeatA, q.v = (rs.getD k zeroSt).v → CameSt rs (ts ++ [q]) (k + 1)) := fun q hq => hc.out.snoc hlt hq
   have hll : ts.length + 1 ≤ 68719476736 := by have := hc.out.1; omega
   have hrdw := hrd.below hnx
   have hkk : (k : Int) < (rs.length : Int) := by omega
   have hk0 : (0 : Int) ≤ (k : Int) := by omega
   clear hcell HC hrd hc
   generalize rs.getD k zeroSt = z at *
   obtain ⟨W1, hW1, d1, hb1, hs1⟩ := boxes1 wr [.int .i64 0, .int .i64 0, .bool false, .int .i64 0, .slice none 0 0, .slice none 0 0, .bool false, .int .i64 0, .slice none 0 0, .slice none 0 0, .bool false, .int .i64 0, .slice none 0 0, .slice none 0 0, .bool false, .int .i64 0, .slice none 0 0, .slice none 0 0, .bool false, .bool false] 149
   obtain ⟨W2, hW2, hw2, hs2, HT2, _, d2⟩ := seat_out z _ rfl d1
   have hB2 : Below wr.heap.size wr W2 := hb1.trans (hw2.below (Nat.le_refl _) (by omega))
   have xp : W2.rangeAt wr.heap.size 1 z.page.cells := seat_page z d2
   have HIP := Tryz.infoPg z.page rfl
   have C := copyPage_own z.page rfl W2 (hrdw.below hB2) hsh
   have HW2 : Hid (W1.setCells wr.heap.size 0 z.cells.toArray.toList = W2) := hW2.out
   have hOz := seat_one z
   have k22 := k2.below hB2 k2.lt
   have k12 := k1.below hB2 k1.lt
   have o2 := hown.below hB2
   have hn2 : Below w.heap.size w W2 := hnx.trans (hB2.mono hnw)
   have hs2' := hB2.size
   have hd2 := d2.lt
   clear hs1 hs2 d1 hb1 hw2 hW2 hrdw hsh k2 k1 hown hnx
   generalize hpc : z.page.cells = pc at *
   go_wp2_with (first | (guard_target = wpList _ _ _ (Oper.mk (some 15) _ _ _ _ _ :: _) _ _; refine wpList_load_mid rfl 149 (.tmp 14) rfl b (off + k * 20) rfl z.cells _ HRG.out Tryz.underlying149 rfl HJ.out ?_) | (guard_target = wpList _ _ _ (Oper.mk none (Op.store _ (Operand.tmp 5) _) _ _ _ _ :: _) _ _; refine wpList_store_mid rfl 149 (.tmp 5) (.tmp 15) rfl wr.heap.size 0 z.cells.toArray rfl rfl (by rw [hW1.out]; exact HT2.out) HJ.out hOz ?_; rw [hW1.out, HW2.out]) | (guard_target = wpList _ _ _ (Oper.mk (some 17) _ _ _ _ _ :: _) _ _; refine wpList_load_mid rfl 47 (.tmp 16) rfl wr.heap.size 1 rfl pc _ xp Tryz.underlying47 rfl HIP ?_) | fail)
   refine C.mono ?_
   clear C xp HIP HRG hW1 HW2 HT2 hpc
   rintro e w3 ⟨us, rfl, hv, ho, hb3⟩
   obtain ⟨y0, y1, y2, y3, rfl⟩ := four_slots' (ts := us) (by have := congrArg List.length hv.out; simpa [SeatA.page, SeatA.ss] using this)
   have hs3 := hb3.size
   have d3 := d2.below hb3 d2.lt
   obtain ⟨W4, hW4, d4, hw4, hs4, hth4⟩ := seat_fill z d3 z.page.lsn y0 y1 y2 y3
   obtain ⟨q, hq⟩ : ∃ q : SeatA, Hid ((⟨z.no, z.page.lsn, y0, y1, y2, y3, z.dirty, z.hot⟩ : SeatA) = q) := ⟨_, rfl⟩
   rw [hq.out] at d4
   have oq : q.own w3 W2.heap.size w3.heap.size := by rw [← hq.out]; exact ho
   have HV : Hid (q.v = z.v) := by rw [Hid, ← hq.out]; simp only [SeatA.v, SeatA.ss]; rw [show List.map (fun x : SlotA => x.v) [y0, y1, y2, y3] = z.page.ss.map (·.v) from hv.out]; rfl
   have k24 := (k22.below hb3 k22.lt).within hw4 (by omega)
   have k14 := (k12.below hb3 k12.lt).within hw4 (by omega)
   have o4 := (o2.below hb3).within hw4 (.inl (by omega))
   have oq4 := oq.within hw4 (.inr (by omega))
   have hn4 : Below w.heap.size w W4 := (hn2.trans (hb3.mono hn2.size)).trans (hw4.below (by omega) (by omega))
   have rq : W4.rangeAt wr.heap.size 0 q.cells := Box.range [] q.cells [] (by simpa using d4)
   have HI1 := Tryz.infoPg ⟨z.page.lsn, [y0, y1, y2, y3]⟩ rfl
   have HO1 := page_one ⟨z.page.lsn, [y0, y1, y2, y3]⟩
   have HI2 := seat_info q
   have HW4 : Hid (w3.setCells wr.heap.size 1 (PageA.cells ⟨z.page.lsn, [y0, y1, y2, y3]⟩).toArray.toList = W4) := hW4.out
   have e0 := k24.cell 0 _ rfl
   have hs4a := Nat.le_of_eq hs4
   have hs4b := Nat.le_of_eq hs4.symm
   obtain ⟨W5, hW5, d5, hb5, hs5⟩ := boxes1 W4 q.cells 149
   have k25 := k24.below hb5 k24.lt
   have k15 := k14.below hb5 k14.lt
   have o5 := o4.below hb5
   have oq5 := oq4.below hb5
   have hn5 : Below w.heap.size w W5 := hn4.trans (hb5.mono hn4.size)
   have r5 : W5.rangeAt W4.heap.size 0 q.cells := Box.range [] q.cells [] (by simpa using d5)
   have hs5' := hb5.size
   clear hW4 hq hs4 hw4 d3 d4 d2 oq ho hv hb3 k22 k12 o2 k24 k14 o4 oq4 hn2 hn4 hb5 d5 hs5
   generalize PageA.cells ⟨z.page.lsn, [y0, y1, y2, y3]⟩ = pc2 at *
   go_wp2_with (first | (guard_target = wpList _ _ _ (Oper.mk none (Op.store _ (Operand.tmp 19) _) _ _ _ _ :: _) _ _; refine wpList_store_mid rfl 47 (.tmp 19) (.tmp 18) rfl wr.heap.size 1 pc2.toArray rfl rfl hth4 (by rw [List.size_toArray]; exact HI1) HO1 ?_; rw [HW4.out]) | (guard_target = wpList _ _ _ (Oper.mk (some 22) _ _ _ _ _ :: _) _ _; refine wpList_load_mid rfl 149 (.tmp 5) rfl wr.heap.size 0 rfl q.cells _ rq Tryz.underlying149 rfl HI2 ?_) | (guard_target = wpList _ _ _ (Oper.mk (some 23) _ _ _ _ _ :: _) _ _; refine build_seats1 (.tmp 22) q rfl ?_; rw [hW5.out]) | (guard_target = wpList _ _ _ (Oper.mk (some 24) _ _ _ _ _ :: _) _ _; refine append_seat rfl _ _ rfl W.heap.size wr.heap.size a' c' ts rfl o5 W4.heap.size 0 1 q rfl r5 W2.heap.size w3.heap.size oq5 (by omega) (by omega) hll (by omega) ?_) | fail)
   intro a9 c9 w9 o9 g9
   have HCM := HS.out q HV.out
   obtain ⟨ys, hys⟩ : ∃ ys, Hid (ts ++ [q] = ys) := ⟨_, rfl⟩
   have hyl : ts.length + 1 = ys.length := by rw [← hys.out]; simp
   rw [hys.out] at o9 HCM
   rw [hyl]
   clear hyl
   have hw9 : Within W.heap.size wr.heap.size W5 w9 := Within.of_grown g9 (fun j hj => ⟨(o5.row.lt j hj).1, o5.blk j hj⟩)
   have hs9 := hw9.size
   have hn9 : Below w.heap.size w w9 := hn5.trans (hw9.below (by omega) (by omega))
   have k29 := k25.within hw9 (by omega)
   have k19 := k15.within hw9 (by omega)
   have m0 := k29.cell 0 _ rfl
   have mf0 := k29.frozen 0
   obtain ⟨WF, hWF, kF, hwF, hsF⟩ := box_set k29 0 (.slice a9 ys.length c9)
   simp only [List.set] at kF
   have hsFa := Nat.le_of_eq hsF
   have hsFb := Nat.le_of_eq hsF.symm
   have k1F := k19.within hwF (by omega)
   have oF := (o9.within hwF (.inr (by omega))).widen (Nat.le_refl _) hsFb (Nat.le_refl _)
   have hnF : Below w.heap.size w WF := hn9.trans (hwF.below (by omega) (by omega))
   clear hwF k29 k19 o9 hsF g9 hw9 e0 k25 k15 o5 oq5 r5 rq HW4 hW5
   go_wp2_with fail
   rw [hWF.out]
   go_roundw
   case rel => exact ⟨k + 1, ys, a9, c9, by omega, by go_num, HCM, kF, k1F, oF, hnF, by omega⟩
   case measure => simp [intOf]; omega
  ·have HE : Hid (ts.map SeatA.v = rs.map SeatA.v) := by
    have e : k = rs.length := by omega
    rw [e] at hc
    exact hc.out.all
   have e0 := k2.cell 0 _ rfl
   have e1 := k2.cell 1 _ rfl
   have m0 := k1.cell 0 _ rfl
   have m1 := k1.cell 1 _ rfl
   have mf0 := k1.frozen 0
   have mf1 := k1.frozen 1
   obtain ⟨WF, hWF, bF, hwF, hsF⟩ := box2_fill k1 (.slice a' ts.length c') (.int .i64 s)
   have q0 := bF.cell 0 _ rfl
   have q1 := bF.cell 1 _ rfl
   have hoF := (hown.within hwF (.inr (by omega))).widen (show w.heap.size ≤ W.heap.size by omega) (show wr.heap.size ≤ WF.heap.size by omega) (Nat.le_refl _)
   have hbF : Below w.heap.size w WF := hnx.trans (hwF.below (by omega) (by have := hnx.size; omega))
   clear hwF hsF bF
   go_wp2
   rw [hWF.out]
   exact bodyPost_ret (v := .agg #[.slice a' ts.length c', .int .i64 s]) (by simp [results, Tryz.results79, go_sem, q0, q1]) rfl ⟨⟨ts, s, a', c'⟩, rfl, by simp only [Hid, PoolA.v]; rw [HE.out], hoF, hbF⟩
structure EngA.caps (e : EngA) : Prop where
 txs : e.aT = none → e.cT = 0
 holds : e.aH = none → e.cH = 0
 recs : ∀ r ∈ e.log.recs, r.aL = none → r.cL = 0
theorem copyEngine_any (e : EngA) (se : e.shape) (w : World) (re : e.reads w) (hl : e.short 1048576) (hc : e.caps) :
  Calls Tryz.prog 31 #[.agg e.cells.toArray] w fun r w' => ∃ t : EngA, r = .returned (.agg t.cells.toArray) ∧ t.shape ∧ Hid (t.v = e.v) ∧ t.own w' w.heap.size w'.heap.size ∧ Below w.heap.size w w' := by
 obtain ⟨Z, hZ⟩ : ∃ Z, Hid (zeroE = Z) := ⟨_, rfl⟩
 have sZ : Z.shape := by rw [← hZ.out]; exact zeroE_shape
 have HZ := Tryz.zeroEng
 rw [hZ.out] at HZ
 obtain ⟨W, hW, b1, b2, hbW, hsW⟩ := boxes2 w e.cells Z.cells 58 58
 have hs0 : w.heap.size + 1 < W.heap.size := by omega
 have HE : Hid (∀ u, Below w.heap.size w u → e.reads u) := fun u hu => re.below hu
 have hix0 := run_index_page e.disk se.disk8
 have HIX : Hid (_) := hix0
 clear hix0
 have HFD : Hid (∀ p ∈ e.disk, Fit p.ss) := fun p hp s hs => by have := hl.disk p hp s hs; omega
 have hid := disk8_info se.disk8
 have HD8 : Hid (e.disk.length = 8) := se.eight
 have p0 := (eng_parts se b1).1
 go_enter Tryz.func31, Tryz.ntmps31
 go_wp2_with (first | (guard_target = wpList _ _ _ (Oper.mk _ (Op.alloc _) _ _ _ _ :: _) _ _; refine alloc_of 58 Z.cells HZ ?_) | (guard_target = wpList _ _ _ (Oper.mk (some 6) _ _ _ _ _ :: _) _ _; refine wpList_load_mid rfl 48 (.tmp 5) rfl w.heap.size 0 rfl (cellsPs e.disk) _ (by rw [hW.out]; exact p0) Tryz.underlying48 rfl hid ?_) | fail)
 rw [hW.out]
 clear hW p0 hid hsW
 have b1' : Box W w.heap.size (cellsPs ([] ++ e.disk.drop 0) ++ e.tail) 58 := b1
 clear b1
 go_loopw [7] (fun i wr => ∃ (k : Nat) (ts : List PageA), k ≤ 8 ∧ i = .int .i64 (k : Int) ∧ Hid (ts.length = k ∧ (∀ p ∈ ts, p.ss.length = 4) ∧ ts.map pgv = (e.disk.take k).map pgv) ∧ OwnS wr W.heap.size wr.heap.size (slots8 ts) ∧ Box wr w.heap.size (cellsPs (ts ++ e.disk.drop k) ++ e.tail) 58 ∧ Box wr (w.heap.size + 1) Z.cells 58 ∧ Below w.heap.size w wr ∧ W.heap.size ≤ wr.heap.size) (fun i _ => 8 - (intOf i).toNat)
 case atStart => exact ⟨0, [], Nat.zero_le _, rfl, ⟨rfl, fun p hp => by (simp at hp), rfl⟩, OwnS.nil _ _ _, b1', b2, hbW, Nat.le_refl _⟩
 case round =>
  obtain ⟨k, ts, hk, rfl, hts, hown, c1, c2, hnx, hsr⟩ := hrel
  clear b1' b2
  by_cases hlt : k < 8
  ·have hkl : k < e.disk.length := by rw [HD8.out]; exact hlt
   have HP4 := se.disk8.at hlt
   have F1 := HFD.out _ (pageD_mem (k := k) hkl)
   have R1 := (HE.out _ hnx).disk _ (pageD_mem (k := k) hkl)
   have HTK : Hid ((e.disk.take (k + 1)).map pgv = (e.disk.take k).map pgv ++ [pgv (e.disk.getD k zeroP)]) := by rw [Hid, List.take_succ_eq_append_getElem hkl, pageD_eq hkl, List.map_append]; rfl
   have HDR : e.disk.drop k = e.disk.getD k zeroP :: e.disk.drop (k + 1) := by rw [← pageD_eq hkl]; exact List.drop_eq_getElem_cons hkl
   have hix := HIX.out k hlt
   rw [HDR] at c1
   clear HDR
   generalize e.disk.getD k zeroP = p at *
   have HIp := page_infoP p HP4
   have HOp := all_oneCell_toArray (oneP p)
   obtain ⟨ZV, hZV, bZ, hbZ, hsZ⟩ := boxes1 wr [.int .i64 0, .bool false, .int .i64 0, .slice none 0 0, .slice none 0 0, .bool false, .int .i64 0, .slice none 0 0, .slice none 0 0, .bool false, .int .i64 0, .slice none 0 0, .slice none 0 0, .bool false, .int .i64 0, .slice none 0 0, .slice none 0 0] 47
   obtain ⟨V, hV, hwS, hsS, HT, _, bS⟩ := page_out (C := wr.heap.size) (T := 47) p HP4 _ rfl bZ Tryz.underlying47 rfl (by kernel_rfl)
   have nb : Below wr.heap.size wr V := hbZ.trans (hwS.below (Nat.le_refl _) (by omega))
   have rS : V.rangeAt wr.heap.size 0 p.cells := Box.range [] p.cells [] (by simpa using bS)
   have EV : Hid (ZV.setCells wr.heap.size 0 p.cells.toArray.toList = V) := hV.out
   have C1 := copyPage_own p HP4 V (R1.below nb) F1
   have hlV := bS.lt
   have sV := nb.size
   have hi0 : (0 : Int) ≤ (k : Int) := by omega
   have hi8 : (k : Int) < 8 := by omega
   clear bZ hbZ hsZ hwS hsS hV bS R1
   go_wp2_with (first | (guard_target = wpList _ _ _ (Oper.mk none (Op.store _ (Operand.tmp 4) _) _ _ _ _ :: _) _ _; refine wpList_store_mid rfl 47 (.tmp 4) (.tmp 10) rfl wr.heap.size 0 p.cells.toArray rfl rfl (by rw [hZV.out]; exact HT.out) (by rw [List.size_toArray]; exact HIp) HOp ?_) | (guard_target = wpList _ _ _ (Oper.mk (some 12) _ _ _ _ _ :: _) _ _; refine wpList_load_mid rfl 47 (.tmp 4) rfl wr.heap.size 0 rfl (p.cells) _ (by rw [hZV.out, EV.out]; exact rS) Tryz.underlying47 rfl HIp ?_) | fail)
   rw [hZV.out, EV.out]
   clear hZV EV HT rS hix
   refine C1.mono ?_
   clear C1
   rintro r w1 ⟨us, rfl, hv, ho1, hb1⟩
   have hu4 : us.length = 4 := by have := congrArg List.length hv.out; simp only [List.length_map] at this; omega
   have s1 := hb1.size
   obtain ⟨q, hq⟩ : ∃ q : PageA, Hid ((⟨p.lsn, us⟩ : PageA) = q) := ⟨_, rfl⟩
   have hq4 : q.ss.length = 4 := by rw [← hq.out]; exact hu4
   have oq : OwnS w1 V.heap.size w1.heap.size q.ss := by rw [← hq.out]; exact ho1
   have HQV : Hid (pgv q = pgv p) := by rw [Hid, ← hq.out]; simp only [pgv]; rw [hv.out]
   rw [hq.out]
   clear hq hv ho1 hu4
   have nb1 : Below wr.heap.size wr w1 := nb.trans (hb1.mono nb.size)
   replace c1 := c1.below nb1 c1.lt
   replace c2 := c2.below nb1 c2.lt
   have hown1 := hown.below nb1
   replace hnx := hnx.trans (nb1.mono hnx.size)
   rw [cellsPs_app, cellsPs_cons, List.append_assoc, List.append_assoc] at c1
   obtain ⟨W2, hW2, d3, hw2, hs2⟩ := range_fill (cellsPs ts) p.cells q.cells (cellsPs (e.disk.drop (k + 1)) ++ e.tail) c1 (by rw [page_len q hq4, page_len p HP4])
   have hl3 : (cellsPs ts).length = k * 17 := by rw [cellsPs_len _ hts.out.2.1, hts.out.1]
   rw [hl3] at hW2
   have HTH : Hid (w1.there w.heap.size (k * 17) q.cells.toArray.size) := c1.there _ _ (by rw [List.size_toArray, page_len q hq4, List.length_append, List.length_append, hl3, page_len p HP4]; omega)
   have s2 := hw2.size
   have d3' : Box W2 w.heap.size (cellsPs ((ts ++ [q]) ++ e.disk.drop (k + 1)) ++ e.tail) 58 := by
    rw [List.append_assoc, cellsPs_app, List.singleton_append, cellsPs_cons, List.append_assoc, List.append_assoc]; exact d3
   have c2' := c2.within hw2 (by omega)
   have HOW : Hid (OwnS W2 W.heap.size W2.heap.size (slots8 (ts ++ [q]))) := by
    rw [Hid, slots8_app, slots8_cons]
    have o := ((hown1.widen (Nat.le_refl _) sV (by omega)).snocs oq (by omega) (by omega) (Nat.le_refl _))
    simpa [slots8] using (o.within hw2 (.inr (by omega))).widen (Nat.le_refl _) s2 (Nat.le_refl _)
   have HTS : Hid ((ts ++ [q]).length = k + 1 ∧ (∀ p ∈ ts ++ [q], p.ss.length = 4) ∧ (ts ++ [q]).map pgv = (e.disk.take (k + 1)).map pgv) := by
    refine ⟨by rw [List.length_append, hts.out.1]; rfl, fun x hx => ?_, ?_⟩
    ·rcases List.mem_append.1 hx with h | h
     ·exact hts.out.2.1 x h
     ·rw [List.mem_singleton.1 h]; exact hq4
    ·rw [HTK.out, List.map_append, hts.out.2.2, ← HQV.out]; rfl
   have HN : Hid (Below w.heap.size w W2 ∧ W.heap.size ≤ W2.heap.size) := ⟨hnx.trans (hw2.below (Nat.le_refl _) (by omega)), by omega⟩
   have HIq : Hid ((Tryz.prog.info? 47).map (·.size) = some q.cells.toArray.size) := page_infoP q hq4
   have HOq := all_oneCell_toArray (oneP q)
   have HW2 : Hid (w1.setCells w.heap.size (k * 17) q.cells.toArray.toList = W2) := hW2.out
   clear c1 c2 d3 hown hown1 oq hw2 hs2 hW2 hnx hts HTK HQV hl3 hb1 nb nb1
   go_wp2_with (first | (guard_target = wpList _ _ _ (Oper.mk none (Op.store _ (Operand.tmp 15) _) _ _ _ _ :: _) _ _; refine wpList_store_mid rfl 47 (.tmp 15) (.tmp 13) rfl w.heap.size (k * 17) (q.cells).toArray rfl rfl HTH.out HIq.out HOq ?_) | fail)
   rw [HW2.out]
   go_roundw
   case rel => exact ⟨k + 1, ts ++ [q], by omega, by go_num, HTS, HOW.out, d3', c2', HN.out.1, HN.out.2⟩
   case measure => simp [intOf]; omega
  ·obtain rfl : k = 8 := by omega
   have hkk : ¬ ((8 : Nat) : Int) < 8 := by omega
   have ht8 : Disk8 ts := ⟨hts.out.1, hts.out.2.1⟩
   have hvd : Hid (ts.map pgv = e.disk.map pgv) := by rw [Hid, hts.out.2.2, ← HD8.out, List.take_length]
   have b1 : Box wr w.heap.size (cellsPs ts ++ [.slice e.aS e.seats.length e.cS, .int .i64 e.hand, .slice e.log.a e.log.recs.length e.log.c, .int .i64 e.log.sure, .slice e.aT e.txs.length e.cT, .slice e.aH e.holds.length e.cH, .int .i64 e.next, .bool e.down]) 58 := by
    have e0 : e.disk.drop 8 = [] := List.drop_eq_nil_of_le (by rw [HD8.out]; exact Nat.le_refl _)
    rw [e0, List.append_nil] at c1
    exact c1
   have HA : Hid ((cellsPs ts).length = 136) := by rw [Hid, cellsPs_len _ ht8.four, ht8.eight]
   have b2 := c2
   have N := hnx
   have od := hown
   clear c1 c2 hnx hown hts
   have p1 : wr.rangeAt w.heap.size 136 e.poolA.cells := by
    have := Box.range (cellsPs ts) e.poolA.cells [.slice e.log.a e.log.recs.length e.log.c, .int .i64 e.log.sure, .slice e.aT e.txs.length e.cT, .slice e.aH e.holds.length e.cH, .int .i64 e.next, .bool e.down] b1
    rwa [HA.out] at this
   have C := copyPool_any e.poolA wr (HE.out _ N).pool hl.pool
   go_wp2_with (first | (guard_target = wpList _ _ _ (Oper.mk (some 18) _ _ _ _ _ :: _) _ _; refine wpList_load_mid rfl 51 (.tmp 17) rfl w.heap.size 136 rfl (e.poolA.cells) _ p1 Tryz.underlying51 rfl (pool_info _) ?_) | fail)
   refine C.mono ?_
   clear C p1
   rintro r w3 ⟨q, rfl, hvp, op, hb⟩
   have s3 := hb.size
   replace b1 := b1.below hb b1.lt
   replace b2 := b2.below hb b2.lt
   replace N := N.trans (hb.mono N.size)
   replace od := od.below hb
   clear hb
   obtain ⟨w4, h4, c3, hw, hs⟩ := range_fill (cellsPs ts) e.poolA.cells q.cells [.slice e.log.a e.log.recs.length e.log.c, .int .i64 e.log.sure, .slice e.aT e.txs.length e.cT, .slice e.aH e.holds.length e.cH, .int .i64 e.next, .bool e.down] b1 rfl
   rw [HA.out] at h4
   have HT : Hid (w3.there w.heap.size 136 q.cells.toArray.size) := b1.there _ _ (by rw [List.length_append, HA.out]; show 136 + 2 ≤ _; simp)
   have sy4 := hw.size
   replace b2 := b2.within hw (by omega)
   replace N := N.trans (hw.below (Nat.le_refl _) (by have := N.size; omega))
   replace od := od.within hw (.inr (by omega))
   replace op := op.within hw (.inr (by omega))
   clear hw hs b1
   have E4 : Hid (w3.setCells w.heap.size 136 q.cells.toArray.toList = w4) := h4.out
   have b1 : Box w4 w.heap.size ((cellsPs ts ++ q.cells) ++ [.slice e.log.a e.log.recs.length e.log.c, .int .i64 e.log.sure, .slice e.aT e.txs.length e.cT, .slice e.aH e.holds.length e.cH, .int .i64 e.next, .bool e.down]) 58 := by rw [List.append_assoc]; exact c3
   clear c3 h4
   have HA2 : Hid ((cellsPs ts ++ q.cells).length = 138) := by rw [Hid, List.length_append, HA.out]; rfl
   have p2 : w4.rangeAt w.heap.size 138 e.log.cells := by
    have := Box.range (cellsPs ts ++ q.cells) e.log.cells [.slice e.aT e.txs.length e.cT, .slice e.aH e.holds.length e.cH, .int .i64 e.next, .bool e.down] b1
    rwa [HA2.out] at this
   have C := copyLog_any e.log w4 (HE.out _ N).log hl.log hc.recs
   go_wp2_with (first | (guard_target = wpList _ _ _ (Oper.mk none (Op.store _ (Operand.tmp 20) _) _ _ _ _ :: _) _ _; refine wpList_store_mid rfl 51 (.tmp 20) (.tmp 19) rfl w.heap.size 136 (q.cells).toArray rfl rfl HT.out (pool_info _) (all_oneCell_toArray (onePool q)) ?_) | (guard_target = wpList _ _ _ (Oper.mk (some 22) _ _ _ _ _ :: _) _ _; refine wpList_load_mid rfl 54 (.tmp 21) rfl w.heap.size 138 rfl (e.log.cells) _ (by rw [E4.out]; exact p2) Tryz.underlying54 rfl (log_info _) ?_) | fail)
   rw [E4.out]
   refine C.mono ?_
   clear C p2 E4 HT
   rintro r w5 ⟨l, rfl, hvl, ol, hb⟩
   have s5 := hb.size
   replace b1 := b1.below hb b1.lt
   replace b2 := b2.below hb b2.lt
   replace N := N.trans (hb.mono N.size)
   replace od := od.below hb
   replace op := op.below hb
   clear hb
   obtain ⟨w6, h6, c3, hw, hs⟩ := range_fill (cellsPs ts ++ q.cells) e.log.cells l.cells [.slice e.aT e.txs.length e.cT, .slice e.aH e.holds.length e.cH, .int .i64 e.next, .bool e.down] b1 rfl
   rw [HA2.out] at h6
   have HT : Hid (w5.there w.heap.size 138 l.cells.toArray.size) := b1.there _ _ (by rw [List.length_append, HA2.out]; show 138 + 2 ≤ _; simp)
   have sy6 := hw.size
   replace b2 := b2.within hw (by omega)
   replace N := N.trans (hw.below (Nat.le_refl _) (by have := N.size; omega))
   replace od := od.within hw (.inr (by omega))
   replace op := op.within hw (.inr (by omega))
   replace ol := ol.within hw (.inr (by omega))
   clear hw hs b1
   have E6 : Hid (w5.setCells w.heap.size 138 l.cells.toArray.toList = w6) := h6.out
   have b1 : Box w6 w.heap.size (cellsPs ts ++ [.slice q.a q.seats.length q.c, .int .i64 q.hand, .slice l.a l.recs.length l.c, .int .i64 l.sure, .slice e.aT e.txs.length e.cT, .slice e.aH e.holds.length e.cH, .int .i64 e.next, .bool e.down]) 58 := by rw [List.append_assoc] at c3; exact c3
   clear c3 h6
   go_upto_region 8 with (first | (guard_target = wpList _ _ _ (Oper.mk none (Op.store _ (Operand.tmp 24) _) _ _ _ _ :: _) _ _; refine wpList_store_mid rfl 54 (.tmp 24) (.tmp 23) rfl w.heap.size 138 (l.cells).toArray rfl rfl HT.out (log_info _) (all_oneCell_toArray (oneLog l)) ?_) | fail)
   rw [E6.out]
   clear E6 HT
   have HX : Hid (∀ u, Below w6.heap.size w6 u → u.cell? ⟨w.heap.size, 140, none⟩ = some (.slice e.aT e.txs.length e.cT) ∧ u.frozen? ⟨w.heap.size, 140, none⟩ = false) := fun u hu => by
    have bu := b1.below hu b1.lt
    exact ⟨bu.cell 140 (.slice e.aT e.txs.length e.cT) (by rw [List.getElem?_append_right (by rw [HA.out]; omega), HA.out]; rfl), bu.frozen 140⟩
   obtain ⟨x0, f0⟩ := HX.out _ (Below.refl _ _)
   have HRD := (HE.out _ N).txs
   have HLN : ([] : List LiveV).length + e.txs.length ≤ 1099511627776 := by have := hl.txs; simp only [List.length_nil]; omega
   go_upto_region 9 with (first | (guard_target = wpList _ _ _ (Oper.mk (some 27) _ _ _ _ _ :: _) _ _; refine append_lives rfl (.const (.slice none 0 0)) (.tmp 26) rfl w6.heap.size w6.heap.size none 0 [] rfl (ownL_nil _ _ _ (Nat.le_refl _)) e.aT e.cT e.txs rfl HRD hc.txs HLN (Nat.le_refl _) ?_; intro a7 c7 y7 w7 hy7 ot g7; have hb7 : Below w6.heap.size w6 w7 := (Below.refl _ _).grown g7 (Nat.le_refl _) (fun j hj => by cases hj); obtain ⟨x7, f7⟩ := HX.out _ hb7) | fail)
   have hyy : y7 = e.txs := hy7.out
   subst hyy
   have s7 := hb7.size
   replace b1 := b1.below hb7 b1.lt
   replace b2 := b2.below hb7 b2.lt
   replace N := N.trans (hb7.mono N.size)
   replace od := od.below hb7
   replace op := op.below hb7
   replace ol := ol.below hb7
   clear x0 f0 x7 f7 HRD HLN g7 hy7 hb7 HX
   obtain ⟨w8, hw8, c3, hw, hs⟩ := tail_fill b1 HA.out 4 (.slice a7 e.txs.length c7)
   rw [show w.heap.size = w.heap.size from rfl, hw8.out]
   have syw8 := hw.size
   replace b2 := b2.within hw (by omega)
   replace N := N.trans (hw.below (Nat.le_refl _) (by have := N.size; omega))
   replace od := od.within hw (.inr (by omega))
   replace op := op.within hw (.inr (by omega))
   replace ol := ol.within hw (.inr (by omega))
   replace ot := ot.within hw (.inr (by omega))
   clear hw hs hw8 b1
   have b1 : Box w8 w.heap.size (cellsPs ts ++ [.slice q.a q.seats.length q.c, .int .i64 q.hand, .slice l.a l.recs.length l.c, .int .i64 l.sure, .slice a7 e.txs.length c7, .slice e.aH e.holds.length e.cH, .int .i64 e.next, .bool e.down]) 58 := c3
   clear c3
   have HX : Hid (∀ u, Below w8.heap.size w8 u → u.cell? ⟨w.heap.size, 141, none⟩ = some (.slice e.aH e.holds.length e.cH) ∧ u.frozen? ⟨w.heap.size, 141, none⟩ = false) := fun u hu => by
    have bu := b1.below hu b1.lt
    exact ⟨bu.cell 141 (.slice e.aH e.holds.length e.cH) (by rw [List.getElem?_append_right (by rw [HA.out]; omega), HA.out]; rfl), bu.frozen 141⟩
   obtain ⟨x0, f0⟩ := HX.out _ (Below.refl _ _)
   have HRD := (HE.out _ N).holds
   have HLN : ([] : List HoldV).length + e.holds.length ≤ 1099511627776 := by have := hl.holds; simp only [List.length_nil]; omega
   go_upto_region 10 with (first | (guard_target = wpList _ _ _ (Oper.mk (some 31) _ _ _ _ _ :: _) _ _; refine append_holds rfl (.const (.slice none 0 0)) (.tmp 30) rfl w8.heap.size w8.heap.size none 0 [] rfl (ownH_nil _ _ _ (Nat.le_refl _)) e.aH e.cH e.holds rfl HRD hc.holds HLN (Nat.le_refl _) ?_; intro a9 c9 y9 w9 hy9 oh g9; have hb9 : Below w8.heap.size w8 w9 := (Below.refl _ _).grown g9 (Nat.le_refl _) (fun j hj => by cases hj); obtain ⟨x9, f9⟩ := HX.out _ hb9) | fail)
   have hyy : y9 = e.holds := hy9.out
   subst hyy
   have s9 := hb9.size
   replace b1 := b1.below hb9 b1.lt
   replace b2 := b2.below hb9 b2.lt
   replace N := N.trans (hb9.mono N.size)
   replace od := od.below hb9
   replace op := op.below hb9
   replace ol := ol.below hb9
   replace ot := ot.below hb9
   clear x0 f0 x9 f9 HRD HLN g9 hy9 hb9 HX
   obtain ⟨w10, hw10, c3, hw, hs⟩ := tail_fill b1 HA.out 5 (.slice a9 e.holds.length c9)
   rw [show w.heap.size = w.heap.size from rfl, hw10.out]
   have syw10 := hw.size
   replace b2 := b2.within hw (by omega)
   replace N := N.trans (hw.below (Nat.le_refl _) (by have := N.size; omega))
   replace od := od.within hw (.inr (by omega))
   replace op := op.within hw (.inr (by omega))
   replace ol := ol.within hw (.inr (by omega))
   replace ot := ot.within hw (.inr (by omega))
   replace oh := oh.within hw (.inr (by omega))
   clear hw hs hw10 b1
   have b1 : Box w10 w.heap.size (cellsPs ts ++ [.slice q.a q.seats.length q.c, .int .i64 q.hand, .slice l.a l.recs.length l.c, .int .i64 l.sure, .slice a7 e.txs.length c7, .slice a9 e.holds.length c9, .int .i64 e.next, .bool e.down]) 58 := c3
   clear c3
   obtain ⟨T, hT⟩ : ∃ T : EngA, Hid ((⟨ts, q.seats, q.a, q.c, q.hand, l, e.txs, a7, c7, e.holds, a9, c9, e.next, e.down⟩ : EngA) = T) := ⟨_, rfl⟩
   have sT : T.shape := by rw [← hT.out]; exact ⟨ht8.eight, ht8.four⟩
   have bT : Box w10 w.heap.size T.cells 58 := by rw [← hT.out]; exact b1
   have HV : Hid (T.v = e.v) := by
    rw [Hid, ← hT.out]
    have v1 := hvd.out
    have v2 := hvp.out
    have v3 := hvl.out
    simp only [PoolA.v, EngA.poolA, PoolV.mk.injEq] at v2
    simp only [EngA.v, v2.1, v2.2, v3]
    congr 1
   have oT : T.own w10 W.heap.size w10.heap.size := by
    rw [← hT.out]
    exact eng_own_of (a0 := W.heap.size) (a1 := wr.heap.size) (a2 := w3.heap.size) (a3 := w5.heap.size) (a4 := w7.heap.size) (a5 := w10.heap.size) od op (OwnRs.widen ol (by omega) (Nat.le_refl _) (by omega)) (ot.widen (by omega) (Nat.le_refl _) (by omega)) (oh.widen (by omega) (by omega) (Nat.le_refl _)) (by omega) (by omega) (by omega) (by omega) (by omega) (Nat.le_refl _)
   clear od op ol ot oh b1 hT hvd hvp hvl
   obtain ⟨WF, hWF, hwF, hsF, HTF, bF⟩ := eng_out sT sZ b2
   have HLF' : Hid (_ = _) := eng_load sT bF
   have rT : w10.rangeAt w.heap.size 0 T.cells := Box.range [] T.cells [] (by simpa using bT)
   have HEND : Hid (T.own WF w.heap.size WF.heap.size ∧ Below w.heap.size w WF) := ⟨(oT.within hwF (.inr (by omega))).widen (by omega) (by omega) (Nat.le_refl _), N.trans (hwF.below (by omega) (by have := N.size; omega))⟩
   have HI := eng_info sT
   have HO := all_oneCell_toArray (oneE T)
   clear hwF hsF bF oT bT b2
   go_wp2_with (first | (guard_target = wpList _ _ _ (Oper.mk (some 33) _ _ _ _ _ :: _) _ _; refine wpList_load_mid rfl 58 (.tmp 1) rfl w.heap.size 0 rfl (T.cells) _ rT Tryz.underlying58 rfl HI ?_) | (guard_target = wpList _ _ _ (Oper.mk none (Op.store _ (Operand.tmp 2) _) _ _ _ _ :: _) _ _; refine wpList_store_mid rfl 58 (.tmp 2) (.tmp 33) rfl (w.heap.size + 1) 0 (T.cells).toArray rfl rfl HTF.out (by rw [List.size_toArray]; exact HI) HO ?_) | fail)
   rw [hWF.out]
   exact bodyPost_ret (v := .agg T.cells.toArray) (results_one Tryz.results31 rfl HLF'.out) rfl ⟨T, rfl, sT, HV, HEND.out.1, HEND.out.2⟩
end Go.Proofs.YtpgeemdjghkjiabGreatDoor
namespace Go.Proofs.YtpgeemdjghkjiabGreatDoor
open Go.RowKit
def Out (k a b : Nat) : Prop := k < a ∨ b ≤ k
theorem Out.zero (k : Nat) : Out k 0 0 := .inr (Nat.zero_le _)
structure CopI (e : EngA) (lo : Nat) (w : World) (c2 c5 c6 c9 c10 c13 : Bool) (X2 X5 X6 X9 X10 X13 : Value) (q : PoolA) (l : LogA) (p0 p1 l0 l1 A6 A10 : Nat) (aT : Option Addr) (cT : Nat) (aH : Option Addr) (cH : Nat) : Prop where
 val : (c5 = true → c2 = true) ∧ (c9 = true → c5 = true ∧ c6 = true) ∧ (c13 = true → c9 = true ∧ c10 = true)
 low : lo ≤ w.heap.size
 top : p1 ≤ w.heap.size ∧ l1 ≤ w.heap.size
 no : (c2 = false → p0 = 0 ∧ p1 = 0) ∧ (c5 = false → l0 = 0 ∧ l1 = 0)
 pool : c2 = true → X2 = .agg q.cells.toArray ∧ Hid (q.v = e.poolA.v) ∧ q.own w p0 p1 ∧ lo ≤ p0 ∧ p0 ≤ p1
 log : c5 = true → X5 = .agg l.cells.toArray ∧ Hid (l.v = e.log.v) ∧ l.own w l0 l1 ∧ p1 ≤ l0 ∧ lo ≤ l0 ∧ l0 ≤ l1
 six : c6 = true → X6 = .slice (some ⟨A6, 0, none⟩) 0 0 ∧ (c9 = false → OwnL w A6 (A6 + 1) (some ⟨A6, 0, none⟩) 0 []) ∧ lo ≤ A6 ∧ A6 < w.heap.size ∧ Out A6 p0 p1 ∧ Out A6 l0 l1
 ten : c10 = true → X10 = .slice (some ⟨A10, 0, none⟩) 0 0 ∧ (c13 = false → OwnH w A10 (A10 + 1) (some ⟨A10, 0, none⟩) 0 []) ∧ lo ≤ A10 ∧ A10 < w.heap.size ∧ Out A10 p0 p1 ∧ Out A10 l0 l1
 both : c6 = true → c10 = true → A6 ≠ A10
 txs : c9 = true → X9 = .slice aT e.txs.length cT ∧ OwnL w lo w.heap.size aT cT e.txs ∧ ∀ k, (Value.slice aT e.txs.length cT).ownBlock = some k → Out k p0 p1 ∧ Out k l0 l1 ∧ (c10 = true → k ≠ A10)
 holds : c13 = true → X13 = .slice aH e.holds.length cH ∧ OwnH w lo w.heap.size aH cH e.holds ∧ ∀ k, (Value.slice aH e.holds.length cH).ownBlock = some k → Out k p0 p1 ∧ Out k l0 l1 ∧ ∀ j, (Value.slice aT e.txs.length cT).ownBlock = some j → j ≠ k
theorem CopI.start (e : EngA) (lo : Nat) (w : World) (X2 X5 X6 X9 X10 X13 : Value) (h : lo ≤ w.heap.size) : CopI e lo w false false false false false false X2 X5 X6 X9 X10 X13 e.poolA e.log 0 0 0 0 0 0 none 0 none 0 :=
 ⟨⟨nofun, nofun, nofun⟩, h, ⟨Nat.zero_le _, Nat.zero_le _⟩, ⟨fun _ => ⟨rfl, rfl⟩, fun _ => ⟨rfl, rfl⟩⟩, nofun, nofun, nofun, nofun, nofun, nofun, nofun⟩
section
variable {e : EngA} {lo : Nat} {w w' : World} {c2 c5 c6 c9 c10 c13 : Bool} {X2 X5 X6 X9 X10 X13 : Value} {q : PoolA} {l : LogA} {p0 p1 l0 l1 A6 A10 : Nat} {aT : Option Addr} {cT : Nat} {aH : Option Addr} {cH : Nat}
theorem CopI.below (h : CopI e lo w c2 c5 c6 c9 c10 c13 X2 X5 X6 X9 X10 X13 q l p0 p1 l0 l1 A6 A10 aT cT aH cH) (hb : Below w.heap.size w w') : CopI e lo w' c2 c5 c6 c9 c10 c13 X2 X5 X6 X9 X10 X13 q l p0 p1 l0 l1 A6 A10 aT cT aH cH := by
 have hs := hb.size
 refine ⟨h.val, by have := h.low; omega, by have := h.top; omega, h.no, fun c => ?_, fun c => ?_, fun c => ?_, fun c => ?_, h.both, fun c => ?_, fun c => ?_⟩
 ·obtain ⟨a, b, d, f⟩ := h.pool c; exact ⟨a, b, OwnSts.below d hb, f⟩
 ·obtain ⟨a, b, d, f⟩ := h.log c; exact ⟨a, b, OwnRs.below d hb, f⟩
 ·obtain ⟨a, b, d, f, g⟩ := h.six c; exact ⟨a, fun x => (b x).below hb, d, by omega, g⟩
 ·obtain ⟨a, b, d, f, g⟩ := h.ten c; exact ⟨a, fun x => (b x).below hb, d, by omega, g⟩
 ·obtain ⟨a, b, d⟩ := h.txs c; exact ⟨a, (b.below hb).widen (Nat.le_refl _) hs (Nat.le_refl _), d⟩
 ·obtain ⟨a, b, d⟩ := h.holds c; exact ⟨a, (b.below hb).widen (Nat.le_refl _) hs (Nat.le_refl _), d⟩
theorem CopI.step2 {X : Value} {q' : PoolA} (h : CopI e lo w false c5 c6 c9 c10 c13 X2 X5 X6 X9 X10 X13 q l p0 p1 l0 l1 A6 A10 aT cT aH cH) (hX : X = .agg q'.cells.toArray) (hv : Hid (q'.v = e.poolA.v)) (ho : q'.own w' w.heap.size w'.heap.size) (hb : Below w.heap.size w w') :
  CopI e lo w' true c5 c6 c9 c10 c13 X X5 X6 X9 X10 X13 q' l w.heap.size w'.heap.size l0 l1 A6 A10 aT cT aH cH := by
 have hs := hb.size
 have h5 : c5 = false := by cases hc : c5 with | false => rfl | true => exact absurd (h.val.1 hc) (by simp)
 have h9 : c9 = false := by cases hc : c9 with | false => rfl | true => have := (h.val.2.1 hc).1; rw [h5] at this; cases this
 have h13 : c13 = false := by cases hc : c13 with | false => rfl | true => have := (h.val.2.2 hc).1; rw [h9] at this; cases this
 subst h5 h9 h13
 have g := h.below hb
 refine ⟨⟨nofun, nofun, nofun⟩, g.low, ⟨Nat.le_refl _, g.top.2⟩, ⟨nofun, g.no.2⟩, fun _ => ⟨hX, hv, ho, h.low, hs⟩, nofun, fun c => ?_, fun c => ?_, g.both, nofun, nofun⟩
 ·obtain ⟨a, b, d, f, _, k⟩ := g.six c; have := (h.six c).2.2.2.1; exact ⟨a, b, d, f, .inl (by omega), k⟩
 ·obtain ⟨a, b, d, f, _, k⟩ := g.ten c; have := (h.ten c).2.2.2.1; exact ⟨a, b, d, f, .inl (by omega), k⟩
theorem CopI.step5 {X : Value} {l' : LogA} (h : CopI e lo w c2 false c6 c9 c10 c13 X2 X5 X6 X9 X10 X13 q l p0 p1 l0 l1 A6 A10 aT cT aH cH) (hc2 : c2 = true) (hX : X = .agg l'.cells.toArray) (hv : Hid (l'.v = e.log.v)) (ho : l'.own w' w.heap.size w'.heap.size) (hb : Below w.heap.size w w') :
  CopI e lo w' c2 true c6 c9 c10 c13 X2 X X6 X9 X10 X13 q l' p0 p1 w.heap.size w'.heap.size A6 A10 aT cT aH cH := by
 have hs := hb.size
 have h9 : c9 = false := by cases hc : c9 with | false => rfl | true => have := (h.val.2.1 hc).1; cases this
 have h13 : c13 = false := by cases hc : c13 with | false => rfl | true => have := (h.val.2.2 hc).1; rw [h9] at this; cases this
 subst h9 h13
 have g := h.below hb
 refine ⟨⟨fun _ => hc2, nofun, nofun⟩, g.low, ⟨g.top.1, Nat.le_refl _⟩, ⟨g.no.1, nofun⟩, g.pool, fun _ => ⟨hX, hv, ho, h.top.1, h.low, hs⟩, fun c => ?_, fun c => ?_, g.both, nofun, nofun⟩
 ·obtain ⟨a, b, d, f, k, _⟩ := g.six c; have := (h.six c).2.2.2.1; exact ⟨a, b, d, f, k, .inl (by omega)⟩
 ·obtain ⟨a, b, d, f, k, _⟩ := g.ten c; have := (h.ten c).2.2.2.1; exact ⟨a, b, d, f, k, .inl (by omega)⟩
theorem CopI.step6 {X : Value} (h : CopI e lo w c2 c5 false c9 c10 c13 X2 X5 X6 X9 X10 X13 q l p0 p1 l0 l1 A6 A10 aT cT aH cH) (hX : X = .slice (some ⟨w.heap.size, 0, none⟩) 0 0) (hw : w.alloc (.cells #[] 121) = w') :
  CopI e lo w' c2 c5 true c9 c10 c13 X2 X5 X X9 X10 X13 q l p0 p1 l0 l1 w.heap.size A10 aT cT aH cH := by
 subst hw
 have hb : Below w.heap.size w (w.alloc (.cells #[] 121)) := (Below.refl _ _).alloc (Nat.le_refl _) _
 have h9 : c9 = false := by cases hc : c9 with | false => rfl | true => have := (h.val.2.1 hc).2; cases this
 have h13 : c13 = false := by cases hc : c13 with | false => rfl | true => have := (h.val.2.2 hc).1; rw [h9] at this; cases this
 subst h9 h13
 have g := h.below hb
 refine ⟨⟨h.val.1, nofun, nofun⟩, g.low, g.top, g.no, g.pool, g.log, fun _ => ⟨hX, fun _ => ownL_lit0 w, h.low, by simp, .inr h.top.1, .inr h.top.2⟩, g.ten, fun _ c => ?_, nofun, nofun⟩
 have := (h.ten c).2.2.2.1
 omega
theorem CopI.step10 {X : Value} (h : CopI e lo w c2 c5 c6 c9 false c13 X2 X5 X6 X9 X10 X13 q l p0 p1 l0 l1 A6 A10 aT cT aH cH) (hX : X = .slice (some ⟨w.heap.size, 0, none⟩) 0 0) (hw : w.alloc (.cells #[] 129) = w') :
  CopI e lo w' c2 c5 c6 c9 true c13 X2 X5 X6 X9 X X13 q l p0 p1 l0 l1 A6 w.heap.size aT cT aH cH := by
 subst hw
 have hb : Below w.heap.size w (w.alloc (.cells #[] 129)) := (Below.refl _ _).alloc (Nat.le_refl _) _
 have h13 : c13 = false := by cases hc : c13 with | false => rfl | true => have := (h.val.2.2 hc).2; cases this
 subst h13
 have g := h.below hb
 refine ⟨⟨h.val.1, h.val.2.1, nofun⟩, g.low, g.top, g.no, g.pool, g.log, g.six, fun _ => ⟨hX, fun _ => ownH_lit0 w, h.low, by simp, .inr h.top.1, .inr h.top.2⟩, fun c _ => ?_, fun c => ?_, nofun⟩
 ·have := (h.six c).2.2.2.1
  omega
 ·obtain ⟨a, b, d⟩ := g.txs c
  refine ⟨a, b, fun k hk => ⟨(d k hk).1, (d k hk).2.1, fun _ => ?_⟩⟩
  have := ((h.txs c).2.1.lt k hk).2
  omega
theorem CopI.step9 {X : Value} {a' : Option Addr} {c' : Nat} (h : CopI e lo w c2 c5 c6 false c10 c13 X2 X5 X6 X9 X10 X13 q l p0 p1 l0 l1 A6 A10 aT cT aH cH) (hc5 : c5 = true) (hc6 : c6 = true) (hX : X = .slice a' e.txs.length c') (ho : OwnL w' A6 w'.heap.size a' c' e.txs) (hg : w.grownBy w' (some A6))
  (hk : ∀ k, (Value.slice a' e.txs.length c').ownBlock = some k → some A6 = some k ∨ k = w.heap.size) :
  CopI e lo w' c2 c5 c6 true c10 c13 X2 X5 X6 X X10 X13 q l p0 p1 l0 l1 A6 A10 a' c' aH cH := by
 have h13 : c13 = false := by cases hc : c13 with | false => rfl | true => have := (h.val.2.2 hc).1; cases this
 subst h13
 have t : Touch [A6] w w' := Touch.of_grown hg (fun k hk => by cases hk; exact List.mem_singleton.2 rfl)
 have hs := t.size
 obtain ⟨x1, x2, x3, x4, x5, x6⟩ := h.six hc6
 have hlo := h.low
 have htop := h.top
 refine ⟨⟨h.val.1, fun _ => ⟨hc5, hc6⟩, nofun⟩, by omega, by omega, h.no, fun c => ?_, fun c => ?_, fun c => ⟨x1, nofun, x3, by omega, x5, x6⟩, fun c => ?_, h.both, fun _ => ⟨hX, ho.widen x3 (Nat.le_refl _) (Nat.le_refl _), fun k hk' => ?_⟩, nofun⟩
 ·obtain ⟨a, b, d, f⟩ := h.pool c
  exact ⟨a, b, OwnSts.touch d t (fun k hk hm => by have := OwnSts.blocks_lt d k hk; rw [List.mem_singleton.1 hm] at this; rcases x5 with y | y <;> omega), f⟩
 ·obtain ⟨a, b, d, f⟩ := h.log c
  exact ⟨a, b, OwnRs.touch d t (fun k hk hm => by have := OwnRs.blocks_lt d k hk; rw [List.mem_singleton.1 hm] at this; rcases x6 with y | y <;> omega), f⟩
 ·obtain ⟨a, b, d, f, g⟩ := h.ten c
  have hne := h.both hc6 c
  exact ⟨a, fun x => (b x).touch t (fun k hk hm => by cases hk; exact hne (List.mem_singleton.1 hm).symm), d, by omega, g⟩
 ·rcases hk k hk' with y | y
  ·cases y; exact ⟨x5, x6, fun c => h.both hc6 c⟩
  ·subst y; exact ⟨.inr htop.1, .inr htop.2, fun c => by have := (h.ten c).2.2.2.1; omega⟩
theorem CopI.step13 {X : Value} {a' : Option Addr} {c' : Nat} (h : CopI e lo w c2 c5 c6 c9 c10 false X2 X5 X6 X9 X10 X13 q l p0 p1 l0 l1 A6 A10 aT cT aH cH) (hc9 : c9 = true) (hc10 : c10 = true) (hX : X = .slice a' e.holds.length c') (ho : OwnH w' A10 w'.heap.size a' c' e.holds) (hg : w.grownBy w' (some A10))
  (hk : ∀ k, (Value.slice a' e.holds.length c').ownBlock = some k → some A10 = some k ∨ k = w.heap.size) :
  CopI e lo w' c2 c5 c6 c9 c10 true X2 X5 X6 X9 X10 X q l p0 p1 l0 l1 A6 A10 aT cT a' c' := by
 have t : Touch [A10] w w' := Touch.of_grown hg (fun k hk => by cases hk; exact List.mem_singleton.2 rfl)
 have hs := t.size
 obtain ⟨x1, x2, x3, x4, x5, x6⟩ := h.ten hc10
 have hlo := h.low
 have htop := h.top
 refine ⟨⟨h.val.1, h.val.2.1, fun _ => ⟨hc9, hc10⟩⟩, by omega, by omega, h.no, fun c => ?_, fun c => ?_, fun c => ?_, fun c => ⟨x1, nofun, x3, by omega, x5, x6⟩, h.both, fun c => ?_, fun _ => ⟨hX, ho.widen x3 (Nat.le_refl _) (Nat.le_refl _), fun k hk' => ?_⟩⟩
 ·obtain ⟨a, b, d, f⟩ := h.pool c
  exact ⟨a, b, OwnSts.touch d t (fun k hk hm => by have := OwnSts.blocks_lt d k hk; rw [List.mem_singleton.1 hm] at this; rcases x5 with y | y <;> omega), f⟩
 ·obtain ⟨a, b, d, f⟩ := h.log c
  exact ⟨a, b, OwnRs.touch d t (fun k hk hm => by have := OwnRs.blocks_lt d k hk; rw [List.mem_singleton.1 hm] at this; rcases x6 with y | y <;> omega), f⟩
 ·obtain ⟨a, b, d, f, g⟩ := h.six c
  exact ⟨a, fun x => (by rw [hc9] at x; cases x), d, by omega, g⟩
 ·obtain ⟨a, b, d⟩ := h.txs c
  exact ⟨a, (b.touch t (fun k hk hm => (d k hk).2.2 hc10 (List.mem_singleton.1 hm))).widen (Nat.le_refl _) hs (Nat.le_refl _), d⟩
 ·obtain ⟨_, b, d⟩ := h.txs hc9
  rcases hk k hk' with y | y
  ·cases y; exact ⟨x5, x6, fun j hj => (d j hj).2.2 hc10⟩
  ·subst y; exact ⟨.inr htop.1, .inr htop.2, fun j hj => by have := (b.lt j hj).2; omega⟩
end
end Go.Proofs.YtpgeemdjghkjiabGreatDoor
namespace Go.Proofs.YtpgeemdjghkjiabGreatDoor
open Go.RowKit
structure CopB (Z : EngA) (nT nH : Nat) (lo : Nat) (w : World) (c3 c6 c9 c10 c13 : Bool) (X3 : Value) (BO p0 p1 l0 l1 A6 A10 : Nat) (aT : Option Addr) (cT : Nat) (aH : Option Addr) (cH : Nat) : Prop where
 box : c3 = true → X3 = .pointer (some ⟨BO, 0, none⟩) ∧ Box w BO Z.cells TE ∧ lo ≤ BO ∧ Out BO p0 p1 ∧ Out BO l0 l1
 six : c3 = true → c6 = true → BO ≠ A6
 ten : c3 = true → c10 = true → BO ≠ A10
 txs : c3 = true → c9 = true → ∀ k, (Value.slice aT nT cT).ownBlock = some k → k ≠ BO
 holds : c3 = true → c13 = true → ∀ k, (Value.slice aH nH cH).ownBlock = some k → k ≠ BO
section
variable {Z e : EngA} {nT nH lo : Nat} {w w' : World} {c2 c3 c5 c6 c9 c10 c13 : Bool} {X2 X3 X5 X6 X9 X10 X13 : Value} {q : PoolA} {l : LogA} {BO p0 p1 l0 l1 A6 A10 : Nat} {aT : Option Addr} {cT : Nat} {aH : Option Addr} {cH : Nat}
theorem CopB.start (X3 : Value) (w : World) : CopB Z nT nH lo w false c6 c9 c10 c13 X3 0 p0 p1 l0 l1 A6 A10 aT cT aH cH := ⟨nofun, nofun, nofun, nofun, nofun⟩
theorem CopB.below (h : CopB Z nT nH lo w c3 c6 c9 c10 c13 X3 BO p0 p1 l0 l1 A6 A10 aT cT aH cH) (hb : Below w.heap.size w w') : CopB Z nT nH lo w' c3 c6 c9 c10 c13 X3 BO p0 p1 l0 l1 A6 A10 aT cT aH cH :=
 ⟨fun c => by obtain ⟨a, b, d⟩ := h.box c; exact ⟨a, b.below hb b.lt, d⟩, h.six, h.ten, h.txs, h.holds⟩
theorem CopB.step2 (h : CopB Z nT nH lo w c3 c6 c9 c10 c13 X3 BO p0 p1 l0 l1 A6 A10 aT cT aH cH) (hb : Below w.heap.size w w') : CopB Z nT nH lo w' c3 c6 c9 c10 c13 X3 BO w.heap.size w'.heap.size l0 l1 A6 A10 aT cT aH cH :=
 ⟨fun c => by obtain ⟨a, b, d, f, g⟩ := h.box c; exact ⟨a, b.below hb b.lt, d, .inl b.lt, g⟩, h.six, h.ten, h.txs, h.holds⟩
theorem CopB.step5 (h : CopB Z nT nH lo w c3 c6 c9 c10 c13 X3 BO p0 p1 l0 l1 A6 A10 aT cT aH cH) (hb : Below w.heap.size w w') : CopB Z nT nH lo w' c3 c6 c9 c10 c13 X3 BO p0 p1 w.heap.size w'.heap.size A6 A10 aT cT aH cH :=
 ⟨fun c => by obtain ⟨a, b, d, f, g⟩ := h.box c; exact ⟨a, b.below hb b.lt, d, f, .inl b.lt⟩, h.six, h.ten, h.txs, h.holds⟩
theorem CopB.step6 (h : CopB Z nT nH lo w c3 c6 c9 c10 c13 X3 BO p0 p1 l0 l1 A6 A10 aT cT aH cH) (hb : Below w.heap.size w w') : CopB Z nT nH lo w' c3 true c9 c10 c13 X3 BO p0 p1 l0 l1 w.heap.size A10 aT cT aH cH :=
 ⟨(h.below hb).box, fun c _ => by have := (h.box c).2.1.lt; omega, h.ten, h.txs, h.holds⟩
theorem CopB.step10 (h : CopB Z nT nH lo w c3 c6 c9 c10 c13 X3 BO p0 p1 l0 l1 A6 A10 aT cT aH cH) (hb : Below w.heap.size w w') : CopB Z nT nH lo w' c3 c6 c9 true c13 X3 BO p0 p1 l0 l1 A6 w.heap.size aT cT aH cH :=
 ⟨(h.below hb).box, h.six, fun c _ => by have := (h.box c).2.1.lt; omega, h.txs, h.holds⟩
theorem CopB.step9 {a' : Option Addr} {c' : Nat} (h : CopB Z nT nH lo w c3 c6 c9 c10 c13 X3 BO p0 p1 l0 l1 A6 A10 aT cT aH cH) (hc6 : c6 = true) (hg : w.grownBy w' (some A6)) (hk : ∀ k, (Value.slice a' nT c').ownBlock = some k → some A6 = some k ∨ k = w.heap.size) :
  CopB Z nT nH lo w' c3 c6 true c10 c13 X3 BO p0 p1 l0 l1 A6 A10 a' c' aH cH :=
 ⟨fun c => by obtain ⟨a, b, d⟩ := h.box c; exact ⟨a, b.block (hg.block BO b.lt (fun x => h.six c hc6 (Option.some.inj x))), d⟩, h.six, h.ten, fun c _ k hk' => by
  rcases hk k hk' with y | y
  ·cases y; exact Ne.symm (h.six c hc6)
  ·have := (h.box c).2.1.lt; omega, h.holds⟩
theorem CopB.step13 {a' : Option Addr} {c' : Nat} (h : CopB Z nT nH lo w c3 c6 c9 c10 c13 X3 BO p0 p1 l0 l1 A6 A10 aT cT aH cH) (hc10 : c10 = true) (hg : w.grownBy w' (some A10)) (hk : ∀ k, (Value.slice a' nH c').ownBlock = some k → some A10 = some k ∨ k = w.heap.size) :
  CopB Z nT nH lo w' c3 c6 c9 c10 true X3 BO p0 p1 l0 l1 A6 A10 aT cT a' c' :=
 ⟨fun c => by obtain ⟨a, b, d⟩ := h.box c; exact ⟨a, b.block (hg.block BO b.lt (fun x => h.ten c hc10 (Option.some.inj x))), d⟩, h.six, h.ten, h.txs, fun c _ k hk' => by
  rcases hk k hk' with y | y
  ·cases y; exact Ne.symm (h.ten c hc10)
  ·have := (h.box c).2.1.lt; omega⟩
theorem CopB.laid {X : Value} (i : CopI e lo w c2 c5 c6 c9 c10 c13 X2 X5 X6 X9 X10 X13 q l p0 p1 l0 l1 A6 A10 aT cT aH cH) (hX : X = .pointer (some ⟨w.heap.size, 0, none⟩)) (hb : Box w' w.heap.size Z.cells TE) :
  CopB Z e.txs.length e.holds.length lo w' true c6 c9 c10 c13 X w.heap.size p0 p1 l0 l1 A6 A10 aT cT aH cH :=
 ⟨fun _ => ⟨hX, hb, i.low, .inr i.top.1, .inr i.top.2⟩, fun _ c => by have := (i.six c).2.2.2.1; omega, fun _ c => by have := (i.ten c).2.2.2.1; omega,
  fun _ c k hk => by have := ((i.txs c).2.1.lt k hk).2; omega, fun _ c k hk => by have := ((i.holds c).2.1.lt k hk).2; omega⟩
end
theorem CopI.whole {e : EngA} {lo : Nat} {w : World} {X2 X5 X6 X9 X10 X13 : Value} {q : PoolA} {l : LogA} {p0 p1 l0 l1 A6 A10 : Nat} {aT : Option Addr} {cT : Nat} {aH : Option Addr} {cH : Nat}
  (i : CopI e lo w true true true true true true X2 X5 X6 X9 X10 X13 q l p0 p1 l0 l1 A6 A10 aT cT aH cH) :
  X2 = .agg q.cells.toArray ∧ X5 = .agg l.cells.toArray ∧ X9 = .slice aT e.txs.length cT ∧ X13 = .slice aH e.holds.length cH ∧ Hid (q.v = e.poolA.v) ∧ Hid (l.v = e.log.v) ∧
  OwnSts w lo w.heap.size q.a q.c q.seats ∧ OwnRs w lo w.heap.size l.a l.c l.recs ∧ OwnL w lo w.heap.size aT cT e.txs ∧ OwnH w lo w.heap.size aH cH e.holds ∧
  (blocksSts q.a q.c q.seats ++ (blocksRs l.a l.c l.recs ++ (rowOf aT e.txs.length cT ++ rowOf aH e.holds.length cH))).Nodup := by
 obtain ⟨a1, a2, a3, a4, a5⟩ := i.pool rfl
 obtain ⟨b1, b2, b3, b4, b5, b6⟩ := i.log rfl
 obtain ⟨t1, t2, t3⟩ := i.txs rfl
 obtain ⟨h1, h2, h3⟩ := i.holds rfl
 have tp := i.top
 refine ⟨a1, b1, t1, h1, a2, b2, OwnSts.widen a3 a4 tp.1 (Nat.le_refl _), OwnRs.widen b3 b5 tp.2 (Nat.le_refl _), t2, h2, ?_⟩
 have B2 := OwnSts.blocks_lt a3
 have B3 := OwnRs.blocks_lt b3
 have nr : ∀ o : Option Nat, o.toList.Nodup := fun o => by cases o <;> simp
 simp only [List.nodup_append, List.mem_append]
 refine ⟨OwnSts.apart a3, ⟨OwnRs.apart b3, ⟨nr _, nr _, fun x hx y hy => (h3 y (Option.mem_toList.1 hy)).2.2 x (Option.mem_toList.1 hx)⟩, fun x hx y hy => ?_⟩, fun x hx y hy => ?_⟩
 ·have := B3 x hx
  rcases hy with hy | hy
  ·rcases (t3 y (Option.mem_toList.1 hy)).2.1 with o | o <;> omega
  ·rcases (h3 y (Option.mem_toList.1 hy)).2.1 with o | o <;> omega
 ·have := B2 x hx
  rcases hy with hy | hy | hy
  ·have := B3 y hy; omega
  ·rcases (t3 y (Option.mem_toList.1 hy)).1 with o | o <;> omega
  ·rcases (h3 y (Option.mem_toList.1 hy)).1 with o | o <;> omega
def copE (e : EngA) (q : PoolA) (l : LogA) (aT : Option Addr) (cT : Nat) (aH : Option Addr) (cH : Nat) : EngA := ⟨zeroE.disk, q.seats, q.a, q.c, q.hand, l, e.txs, aT, cT, e.holds, aH, cH, e.next, e.down⟩
theorem copE_shape (e : EngA) (q : PoolA) (l : LogA) (aT : Option Addr) (cT : Nat) (aH : Option Addr) (cH : Nat) : (copE e q l aT cT aH cH).shape := ⟨zeroE_shape.eight, zeroE_shape.four⟩
theorem run_buildEC (w : World) (e : EngA) (q : PoolA) (l : LogA) (aT : Option Addr) (cT : Nat) (aH : Option Addr) (cH : Nat) :
  (Instr.build 58 #[(1, .agg q.cells.toArray), (2, .agg l.cells.toArray), (3, .slice aT e.txs.length cT), (4, .slice aH e.holds.length cH), (5, .int .i64 e.next), (6, .bool e.down)]).run Tryz.prog w = .ok (.agg (copE e q l aT cT aH cH).cells.toArray) w := run_build w _ _ _ (by kernel_rfl)
theorem zdisk_own (w : World) (lo hi : Nat) (h : hi ≤ w.heap.size) : OwnS w lo hi (zeroE.disk.flatMap (·.ss)) := by
 refine ⟨fun s hs => ?_, List.nodup_nil⟩
 obtain ⟨p, hp, hs⟩ := List.mem_flatMap.1 hs
 have h1 : p = zeroP := by
  simp only [zeroE, List.mem_cons, List.not_mem_nil, or_false] at hp
  rcases hp with h | h | h | h | h | h | h | h <;> exact h
 rw [h1] at hs
 have h2 : s = zeroS := by simpa [zeroP] using hs
 rw [h2]
 exact zero_own _ _ _ h
theorem CopI.eng {Z e : EngA} {lo : Nat} {w : World} {X2 X5 X6 X9 X10 X13 X3 : Value} {q : PoolA} {l : LogA} {BO p0 p1 l0 l1 A6 A10 : Nat} {aT : Option Addr} {cT : Nat} {aH : Option Addr} {cH : Nat}
  (i : CopI e lo w true true true true true true X2 X5 X6 X9 X10 X13 q l p0 p1 l0 l1 A6 A10 aT cT aH cH) (b : CopB Z e.txs.length e.holds.length lo w true true true true true X3 BO p0 p1 l0 l1 A6 A10 aT cT aH cH) :
  (copE e q l aT cT aH cH).own w lo w.heap.size ∧ BO ∉ (copE e q l aT cT aH cH).blocks := by
 obtain ⟨_, _, _, _, _, _, o1, o2, o3, o4, nd⟩ := i.whole
 obtain ⟨_, _, _, f1, f2⟩ := b.box rfl
 refine ⟨⟨zdisk_own w _ _ (Nat.le_refl _), o1, o2, o3, o4, nd⟩, fun hm => ?_⟩
 have hm' : BO ∈ blocksSts q.a q.c q.seats ++ (blocksRs l.a l.c l.recs ++ (rowOf aT e.txs.length cT ++ rowOf aH e.holds.length cH)) := hm
 simp only [List.mem_append] at hm'
 rcases hm' with h | h | h | h
 ·have := OwnSts.blocks_lt (i.pool rfl).2.2.1 BO h; rcases f1 with y | y <;> omega
 ·have := OwnRs.blocks_lt (i.log rfl).2.2.1 BO h; rcases f2 with y | y <;> omega
 ·exact b.txs rfl rfl BO (Option.mem_toList.1 h) rfl
 ·exact b.holds rfl rfl BO (Option.mem_toList.1 h) rfl
end Go.Proofs.YtpgeemdjghkjiabGreatDoor
namespace Go.Proofs.YtpgeemdjghkjiabGreatDoor
open Go.RowKit
theorem fold_seg (off : Nat) : ∀ (vs A old R : List Value) (j : Nat), old.length = vs.length → A.length = off + j →
  (vs.zipIdx j).foldl (fun (cs : Array Value) (p : Value × Nat) => cs.setIfInBounds (off + p.2) p.1) (A ++ (old ++ R)).toArray = (A ++ (vs ++ R)).toArray
 | [], A, old, R, j, h, hA => by
  have : old = [] := List.length_eq_zero_iff.1 h
  rw [this]; rfl
 | v :: vs, A, [], R, j, h, hA => by cases h
 | v :: vs, A, o :: old, R, j, h, hA => by
  rw [List.zipIdx_cons, List.foldl_cons]
  have e1 : (A ++ (o :: old ++ R)).toArray.setIfInBounds (off + j) v = ((A ++ [v]) ++ (old ++ R)).toArray := by
   rw [List.setIfInBounds_toArray, ← hA, List.set_append_right _ _ (Nat.le_refl _), Nat.sub_self]
   simp
  have e2 := fold_seg off vs (A ++ [v]) old R (j + 1) (by simpa using h) (by rw [List.length_append, hA]; rfl)
  show List.foldl _ ((A ++ (o :: old ++ R)).toArray.setIfInBounds (off + j) v) _ = _
  rw [e1, e2]
  simp
theorem fold_seg0 (vs A old R : List Value) (h : old.length = vs.length) : vs.toArray.zipIdx.foldl (fun (cs : Array Value) (p : Value × Nat) => cs.setIfInBounds (A.length + p.2) p.1) (A ++ (old ++ R)).toArray = (A ++ (vs ++ R)).toArray := by
 rw [← Array.foldl_toList, Array.toList_zipIdx]
 exact fold_seg A.length vs A old R 0 h rfl
theorem fill_step (place : Nat → Option (Nat × Nat)) (A vs old R : List Value) (i : Nat) (v : Value) (rest : List (Nat × Value)) (hp : place i = some (A.length, vs.length)) (hv : v.cells = vs.toArray) (h : old.length = vs.length) :
  Instr.fill place (A ++ (old ++ R)).toArray ((i, v) :: rest) = Instr.fill place (A ++ (vs ++ R)).toArray rest := by
 have e1 : v.cells.size = vs.length := by rw [hv]; simp
 have e2 : (A ++ (old ++ R)).toArray.size = A.length + (vs.length + R.length) := by simp [h]
 have e3 := fold_seg0 vs A old R h
 rw [Instr.fill]
 simp only [hp, e1, e2]
 rw [if_neg (by simp), hv]
 exact congrArg (fun c => Instr.fill place c rest) e3
end Go.Proofs.YtpgeemdjghkjiabGreatDoor
namespace Go.Proofs.YtpgeemdjghkjiabGreatDoor
open Go.RowKit
theorem step_append_holds {w : World} {ops : Array Oper} {o : Oper} {act : Act} {K : Act → World → Prop} {Q : Exit → Act → World → Prop} {E : Prop} (hgd : o.guard = none) (s x : Operand)
  (ho : o.op = .call { callee := .builtin .append, args := #[s, x], argTypes := #[56, 56] })
  (lo hi : Nat) (a : Option Addr) (c : Nat) (xs : List HoldV) (hs : act.eval s = .slice a xs.length c) (hown : OwnH w lo hi a c xs)
  (sa : Option Addr) (sc : Nat) (zs : List HoldV) (hx : act.eval x = .slice sa zs.length sc) (hr : ReadsH w sa zs) (hc : sa = none → sc = 0)
  (hb : xs.length + zs.length ≤ 1099511627776) (hlo : lo ≤ w.heap.size)
  (h : ∀ a' c' ys w', Hid (ys = xs ++ zs) → OwnH w' lo w'.heap.size a' c' ys → w.grownBy w' (Value.slice a xs.length c).ownBlock →
   (∀ k, (Value.slice a' ys.length c').ownBlock = some k → (Value.slice a xs.length c).ownBlock = some k ∨ k = w.heap.size) → K (act.put o.dst (.slice a' ys.length c')) w') :
  if Region.wanted o (yielded ops act.tmps) = true then Oper.wp Tryz.prog o act w K Q else E := by
 have hw : Region.wanted o (yielded ops act.tmps) = true := by simp [Region.wanted, hgd]
 rw [if_pos hw]
 obtain ⟨a', c', ys, w', hrun, h1, h2, h3, h4⟩ := run_append_holds (w := w) o.type lo hi a c xs hown sa sc zs hr hc hb hlo
 unfold Oper.wp execOp
 simp only [ho, resolve, invoke, builtin, Sem.run_bind, Sem.run_pure, Result.andThen_ok, List.map_toArray, List.map_cons, List.map_nil, hs, hx, hrun]
 exact h a' c' ys w' h1 h2 h3 h4
theorem step_alloc {w : World} {ops : Array Oper} {act : Act} {K : Act → World → Prop} {Q : Exit → Act → World → Prop} {E : Prop} {dst : Option Nat} {ty : TypeId} {pos : String} {aft : Array Edge} (T : TypeId) (cs : List Value)
  (hz : (Tryz.prog.info? T).map (·.zero) = some (some (.agg cs.toArray)))
  (h : K (act.put dst (.pointer (some ⟨w.heap.size, 0, none⟩))) (w.alloc (.cells cs.toArray T))) :
  if Region.wanted { dst := dst, op := .alloc T, type := ty, pos := pos, after := aft, guard := none } (yielded ops act.tmps) = true then Oper.wp Tryz.prog { dst := dst, op := .alloc T, type := ty, pos := pos, after := aft, guard := none } act w K Q else E := by
 rw [if_pos (by simp [Region.wanted])]
 cases hi : Tryz.prog.info? T with
 | none => rw [hi] at hz; cases hz
 | some inf =>
  rw [hi] at hz
  have hz' : inf.zero = some (.agg cs.toArray) := by simpa using hz
  unfold Oper.wp execOp
  have e1 : (zeroValue T).run Tryz.prog w = .ok (.agg cs.toArray) w := by simp [zeroValue, typeInfo, hi, hz']
  have e2 : (Instr.alloc T true (.tuple #[])).run Tryz.prog w = .ok (.pointer (some ⟨w.heap.size, 0, none⟩)) (w.alloc (.cells cs.toArray T)) := by
   unfold Instr.alloc
   simp only [Sem.run_bind, e1, Result.andThen_ok]
   simp [newVar, go_sem]
  simp only [Sem.run_bind, e2, Result.andThen_ok, Sem.run_pure]
  exact h
theorem within_touch {B : Nat} {w w' : World} (h : Within B (B + 1) w w') : Touch [B] w w' := ⟨h.os, h.tape, h.output, h.size, fun k hk hn => h.block k hk (fun hh => hn (List.mem_singleton.2 (by omega)))⟩
theorem own_disk {w : World} {lo D hi : Nat} {t : EngA} {ts : List PageA} (h : t.own w lo D) (hd : OwnS w D hi (slots8 ts)) (h1 : lo ≤ D) (h2 : D ≤ hi) (h3 : hi ≤ w.heap.size) : ({ t with disk := ts } : EngA).own w lo hi := by
 refine ⟨hd.widen h1 (Nat.le_refl _) h3, h.pool.widen (Nat.le_refl _) h2 h3, h.log.widen (Nat.le_refl _) h2 h3, h.txs.widen (Nat.le_refl _) h2 h3, h.holds.widen (Nat.le_refl _) h2 h3, ?_⟩
 have hb := h.blocks_lt
 have ap := h.apart
 simp only [EngA.blocks, List.nodup_append] at ap
 simp only [EngA.blocks, List.nodup_append]
 refine ⟨hd.apart, ap.2.1, fun x hx y hy => ?_⟩
 have h4 := hd.blocks_lt x hx
 have h5 := hb y (List.mem_append.2 (.inr hy))
 omega
theorem step_build {w : World} {o : Oper} {act : Act} {K : Act → World → Prop} {Q : Exit → Act → World → Prop} (T : TypeId) {v : Value} (parts : Array (Nat × Operand)) {ps : Array (Nat × Value)} (hr : (Instr.build T ps).run Tryz.prog w = .ok v w)
  (ho : o.op = .build T parts) (hp : parts.map (fun p => (p.1, act.eval p.2)) = ps) (h : K (act.put o.dst v) w) : Oper.wp Tryz.prog o act w K Q := by
 subst hp
 unfold Oper.wp execOp
 simp only [ho, Sem.run_bind, hr, Result.andThen_ok, Sem.run_pure]
 exact h
theorem l7Copy_any (e : EngA) (se : e.shape) (w : World) (re : e.reads w) (hl : e.short 1048576) (hc : e.caps) :
  Calls Tryz.prog 22 #[.agg e.cells.toArray] w fun r w' => ∃ t : EngA, r = .returned (.agg t.cells.toArray) ∧ t.shape ∧ Hid (t.v = e.v) ∧ t.own w' w.heap.size w'.heap.size ∧ Below w.heap.size w w' := by
 obtain ⟨Z, hZ⟩ : ∃ Z, Hid (zeroE = Z) := ⟨_, rfl⟩
 have sZ : Z.shape := by rw [← hZ.out]; exact zeroE_shape
 have HZ := Tryz.zeroEng
 rw [hZ.out] at HZ
 obtain ⟨W, hW, b0, bR, hbW, hsW⟩ := boxes2 w e.cells Z.cells 58 58
 have HB : Hid (∀ u, Below W.heap.size W u → Box u w.heap.size e.cells 58) := fun u hu => b0.below hu b0.lt
 have HBR : Hid (∀ u, Below W.heap.size W u → Box u (w.heap.size + 1) Z.cells 58) := fun u hu => bR.below hu bR.lt
 have HR : Hid (∀ u, Below W.heap.size W u → e.reads u) := fun u hu => (re.below hbW).below hu
 have HEND : Hid (∀ u, Below W.heap.size W u → Below w.heap.size w u) := fun u hu => hbW.trans (hu.mono hbW.size)
 have hw0 : w.heap.size + 1 < W.heap.size := by omega
 have N : Below W.heap.size W W := Below.refl _ _
 clear b0 bR hsW
 have HS : Hid (∀ u, Below W.heap.size W u → (u.rangeAt w.heap.size 136 e.poolA.cells ∧ u.rangeAt w.heap.size 138 e.log.cells ∧ u.cell? ⟨w.heap.size, 140, none⟩ = some (.slice e.aT e.txs.length e.cT) ∧ u.cell? ⟨w.heap.size, 141, none⟩ = some (.slice e.aH e.holds.length e.cH) ∧ u.cell? ⟨w.heap.size, 142, none⟩ = some (.int .i64 e.next) ∧ u.cell? ⟨w.heap.size, 143, none⟩ = some (.bool e.down))) := fun u hu => (eng_parts se (HB.out u hu)).2
 go_enter Tryz.func22, Tryz.ntmps22
 go_upto_region 1 with (first | (guard_target = wpList _ _ _ (Oper.mk _ (Op.alloc _) _ _ _ _ :: _) _ _; refine alloc_of 58 Z.cells HZ ?_) | fail)
 rw [hW.out, show (w.alloc (Obj.cells e.cells.toArray 58)).heap.size = w.heap.size + 1 from by simp]
 clear hW
 have D0 : Below W.heap.size W W.drew := N.drew
 refine wp_region_held_drew (S := fun u => (u.rangeAt w.heap.size 136 e.poolA.cells ∧ u.rangeAt w.heap.size 138 e.log.cells ∧ u.cell? ⟨w.heap.size, 140, none⟩ = some (.slice e.aT e.txs.length e.cT) ∧ u.cell? ⟨w.heap.size, 141, none⟩ = some (.slice e.aH e.holds.length e.cH) ∧ u.cell? ⟨w.heap.size, 142, none⟩ = some (.int .i64 e.next) ∧ u.cell? ⟨w.heap.size, 143, none⟩ = some (.bool e.down))) (by kernel_rfl) (HS.out _ D0) (fun hHeld => ?_)
 generalize W.drew = d0 at *
 refine tk 0 (v := .pointer (some ⟨w.heap.size, 136, none⟩)) rfl (Or.inl ⟨by rfl, ?_⟩) hHeld ?_
 ·intro w' hSw
  go_simp <;> rfl
 try simp only [Act.put, zA, zB, zD, zE, zF]
 refine tk 1 rfl (yieldsIf_load_mid (by rfl) _ _ rfl _ _ rfl (e.poolA.cells) _ (fun _ h => h.1) Tryz.underlying51 rfl (pool_info _)) hHeld ?_
 try simp only [Act.put, zA, zB, zC, zD, zE, zF]
 refine tk 3 (v := .pointer (some ⟨w.heap.size, 138, none⟩)) rfl (Or.inl ⟨by rfl, ?_⟩) hHeld ?_
 ·intro w' hSw
  go_simp <;> rfl
 try simp only [Act.put, zA, zB, zC, zD, zE, zF]
 refine tk 4 rfl (yieldsIf_load_mid (by rfl) _ _ rfl _ _ rfl (e.log.cells) _ (fun _ h => h.2.1) Tryz.underlying54 rfl (log_info _)) hHeld ?_
 try simp only [Act.put, zA, zB, zC, zD, zE, zF]
 refine tk 7 (v := .pointer (some ⟨w.heap.size, 140, none⟩)) rfl (Or.inl ⟨by rfl, ?_⟩) hHeld ?_
 ·intro w' hSw
  go_simp <;> rfl
 try simp only [Act.put, zA, zB, zC, zD, zE, zF]
 refine tk 8 (v := .slice e.aT e.txs.length e.cT) rfl (Or.inl ⟨by rfl, ?_⟩) hHeld ?_
 ·intro w' hSw
  have hx := hSw.2.2.1
  go_simp <;> rfl
 try simp only [Act.put, zA, zB, zC, zD, zE, zF]
 refine tk 11 (v := .pointer (some ⟨w.heap.size, 141, none⟩)) rfl (Or.inl ⟨by rfl, ?_⟩) hHeld ?_
 ·intro w' hSw
  go_simp <;> rfl
 try simp only [Act.put, zA, zB, zC, zD, zE, zF]
 refine tk 12 (v := .slice e.aH e.holds.length e.cH) rfl (Or.inl ⟨by rfl, ?_⟩) hHeld ?_
 ·intro w' hSw
  have hx := hSw.2.2.2.1
  go_simp <;> rfl
 try simp only [Act.put, zA, zB, zC, zD, zE, zF]
 refine tk 14 (v := .pointer (some ⟨w.heap.size, 142, none⟩)) rfl (Or.inl ⟨by rfl, ?_⟩) hHeld ?_
 ·intro w' hSw
  go_simp <;> rfl
 try simp only [Act.put, zA, zB, zC, zD, zE, zF]
 refine tk 15 (v := .int .i64 e.next) rfl (Or.inl ⟨by rfl, ?_⟩) hHeld ?_
 ·intro w' hSw
  have hx := hSw.2.2.2.2.1
  go_simp <;> rfl
 try simp only [Act.put, zA, zB, zC, zD, zE, zF]
 refine tk 16 (v := .pointer (some ⟨w.heap.size, 143, none⟩)) rfl (Or.inl ⟨by rfl, ?_⟩) hHeld ?_
 ·intro w' hSw
  go_simp <;> rfl
 try simp only [Act.put, zA, zB, zC, zD, zE, zF]
 refine tk 17 (v := .bool e.down) rfl (Or.inl ⟨by rfl, ?_⟩) hHeld ?_
 ·intro w' hSw
  have hx := hSw.2.2.2.2.2
  go_simp <;> rfl
 try simp only [Act.put, zA, zB, zC, zD, zE, zF]
 clear hHeld
 refine wpAnyH_inv (I := fun l a u => ∃ (c2 c5 c6 c9 c10 c13 c3 c18 : Bool) (X2 X5 X6 X9 X10 X13 X3 X23 : Value) (q : PoolA) (l' : LogA) (p0 p1 l0 l1 A6 A10 : Nat) (aT : Option Addr) (cT : Nat) (aH : Option Addr) (cH : Nat) (BO : Nat),
  l = #[true, true, c2, true, true, c5, c6, true, true, c9, c10, true, true, c13, true, true, true, true, c18, c3, false] ∧ a = ⟨([.agg e.cells.toArray, .pointer (some ⟨w.heap.size, 0, none⟩), .pointer (some ⟨w.heap.size + 1, 0, none⟩), X3, undef, .pointer (some ⟨w.heap.size, 136, none⟩), .agg (e.poolA.cells).toArray, X2, .pointer (some ⟨w.heap.size, 138, none⟩), .agg (e.log.cells).toArray, X5, X6, .pointer (some ⟨w.heap.size, 140, none⟩), .slice e.aT e.txs.length e.cT, X9, X10, .pointer (some ⟨w.heap.size, 141, none⟩), .slice e.aH e.holds.length e.cH, X13, .pointer (some ⟨w.heap.size, 142, none⟩), .int .i64 e.next, .pointer (some ⟨w.heap.size, 143, none⟩), .bool e.down, X23, undef, undef, undef, undef, undef, undef, undef, undef, undef, undef, undef, undef, undef] : List Value).toArray, []⟩ ∧ CopI e W.heap.size u c2 c5 c6 c9 c10 c13 X2 X5 X6 X9 X10 X13 q l' p0 p1 l0 l1 A6 A10 aT cT aH cH ∧ CopB Z e.txs.length e.holds.length W.heap.size u c3 c6 c9 c10 c13 X3 BO p0 p1 l0 l1 A6 A10 aT cT aH cH ∧ (c18 = true → (c2 && (c5 && (c6 && (c9 && (c10 && c13))))) = true ∧ X23 = .agg (copE e q l' aT cT aH cH).cells.toArray) ∧ Below W.heap.size W u)
  (stop := fun l => l.getD 18 false && l.getD 19 false) ?_ ?_ _ _ _ _ (by kernel_rfl) ?_
 rotate_right
 ·exact ⟨false, false, false, false, false, false, false, false, undef, undef, undef, undef, undef, undef, undef, undef, e.poolA, e.log, 0, 0, 0, 0, 0, 0, none, 0, none, 0, 0, by kernel_rfl, rfl, CopI.start e _ _ _ _ _ _ _ _ D0.size, CopB.start _ _, nofun, D0⟩
 ·rintro l a u ⟨c2, c5, c6, c9, c10, c13, c3, c18, X2, X5, X6, X9, X10, X13, X3, X23, q, l', p0, p1, l0, l1, A6, A10, aT, cT, aH, cH, BO, rfl, rfl, hI, hB, h18, hN⟩ hst
  refine inv_step (fun j => (j == 2 && !c2) || ((j == 5 && (!c5 && c2)) || ((j == 6 && !c6) || ((j == 9 && (!c9 && (c5 && c6))) || ((j == 10 && !c10) || ((j == 13 && (!c13 && (c9 && c10))) || ((j == 19 && !c3) || (j == 18 && (!c18 && (c2 && (c5 && (c6 && (c9 && (c10 && c13)))))))))))))) ?_ ?_
  ·have hval := And.intro hI.val (fun h => (h18 h).1)
   clear hI hB hN h18
   revert hst hval
   cases c2 <;> cases c5 <;> cases c6 <;> cases c9 <;> cases c10 <;> cases c13 <;> cases c3 <;> cases c18 <;> first | exact (fun h _ => absurd h (by decide)) | exact (fun _ h => absurd h (by decide)) | exact (fun _ _ => by (show _ = true; kernel_rfl))
  ·clear hst
   intro j hj
   simp only [Bool.or_eq_true, Bool.and_eq_true, beq_iff_eq, Bool.not_eq_true'] at hj
   rcases hj with (⟨rfl, rfl⟩ | ⟨rfl, rfl, h2⟩ | ⟨rfl, rfl⟩ | ⟨rfl, rfl, h5, h6⟩ | ⟨rfl, rfl⟩ | ⟨rfl, rfl, h9, h10⟩ | ⟨rfl, rfl⟩ | ⟨rfl, rfl, a2, a5, a6, a9, a10, a13⟩)
   ·refine wpOp_inv rfl (fun K hK => ?_)
    go_simp
    refine (l6Copy_any e.poolA u (HR.out _ hN).pool hl.pool).mono ?_
    rintro r u' ⟨t, rfl, hv, ho, hb⟩
    have hN' : Below W.heap.size W u' := hN.trans (hb.mono hN.size)
    exact hK.out _ _ ⟨HS.out _ hN', true, c5, c6, c9, c10, c13, c3, c18, _, X5, X6, X9, X10, X13, X3, X23, t, l', _, _, l0, l1, A6, A10, aT, cT, aH, cH, BO, by kernel_rfl, rfl, hI.step2 rfl hv ho hb, hB.step2 hb, fun h => absurd (h18 h).1 (by simp), hN'⟩
   ·refine wpOp_inv rfl (fun K hK => ?_)
    go_simp
    refine (l5Copy_any e.log u (HR.out _ hN).log hl.log hc.recs).mono ?_
    rintro r u' ⟨t, rfl, hv, ho, hb⟩
    have hN' : Below W.heap.size W u' := hN.trans (hb.mono hN.size)
    exact hK.out _ _ ⟨HS.out _ hN', c2, true, c6, c9, c10, c13, c3, c18, X2, _, X6, X9, X10, X13, X3, X23, q, t, p0, p1, _, _, A6, A10, aT, cT, aH, cH, BO, by kernel_rfl, rfl, hI.step5 h2 rfl hv ho hb, hB.step5 hb, fun h => absurd (h18 h).1 (by simp), hN'⟩
   ·refine wpOp_inv rfl (fun K hK => ?_)
    have hb : Below u.heap.size u (u.alloc (.cells #[] 121)) := (Below.refl _ _).alloc (Nat.le_refl _) _
    have hN' : Below W.heap.size W (u.alloc (.cells #[] 121)) := hN.trans (hb.mono hN.size)
    go_simp
    exact hK.out _ _ ⟨HS.out _ hN', c2, c5, true, c9, c10, c13, c3, c18, X2, X5, _, X9, X10, X13, X3, X23, q, l', p0, p1, l0, l1, _, A10, aT, cT, aH, cH, BO, by kernel_rfl, rfl, hI.step6 rfl rfl, hB.step6 hb, fun h => absurd (h18 h).1 (by simp), hN'⟩
   ·refine wpOp_inv rfl (fun K hK => ?_)
    obtain ⟨x1, x2, x3, x4, _, _⟩ := hI.six h6
    refine step_append_lives rfl (.tmp 11) (.tmp 13) rfl A6 (A6 + 1) (some ⟨A6, 0, none⟩) 0 [] (by rw [x1]; rfl) (x2 rfl) e.aT e.cT e.txs rfl (HR.out _ hN).txs hc.txs (by have := hl.txs; simp only [List.length_nil]; omega) (by omega) ?_
    intro a' c' ys u' hys ho hg hk
    have hyy : ys = e.txs := hys.out
    subst hyy
    have hN' : Below W.heap.size W u' := hN.grown hg hN.size (fun k hk => by cases hk; exact x3)
    exact hK.out _ _ ⟨HS.out _ hN', c2, c5, c6, true, c10, c13, c3, c18, X2, X5, X6, _, X10, X13, X3, X23, q, l', p0, p1, l0, l1, A6, A10, a', c', aH, cH, BO, by kernel_rfl, rfl, hI.step9 h5 h6 rfl ho hg hk, hB.step9 h6 hg hk, fun h => absurd (h18 h).1 (by simp), hN'⟩
   ·refine wpOp_inv rfl (fun K hK => ?_)
    have hb : Below u.heap.size u (u.alloc (.cells #[] 129)) := (Below.refl _ _).alloc (Nat.le_refl _) _
    have hN' : Below W.heap.size W (u.alloc (.cells #[] 129)) := hN.trans (hb.mono hN.size)
    go_simp
    exact hK.out _ _ ⟨HS.out _ hN', c2, c5, c6, c9, true, c13, c3, c18, X2, X5, X6, X9, _, X13, X3, X23, q, l', p0, p1, l0, l1, A6, _, aT, cT, aH, cH, BO, by kernel_rfl, rfl, hI.step10 rfl rfl, hB.step10 hb, fun h => absurd (h18 h).1 (by simp), hN'⟩
   ·refine wpOp_inv rfl (fun K hK => ?_)
    obtain ⟨x1, x2, x3, x4, _, _⟩ := hI.ten h10
    refine step_append_holds rfl (.tmp 15) (.tmp 17) rfl A10 (A10 + 1) (some ⟨A10, 0, none⟩) 0 [] (by rw [x1]; rfl) (x2 rfl) e.aH e.cH e.holds rfl (HR.out _ hN).holds hc.holds (by have := hl.holds; simp only [List.length_nil]; omega) (by omega) ?_
    intro a' c' ys u' hys ho hg hk
    have hyy : ys = e.holds := hys.out
    subst hyy
    have hN' : Below W.heap.size W u' := hN.grown hg hN.size (fun k hk => by cases hk; exact x3)
    exact hK.out _ _ ⟨HS.out _ hN', c2, c5, c6, c9, c10, true, c3, c18, X2, X5, X6, X9, X10, _, X3, X23, q, l', p0, p1, l0, l1, A6, A10, aT, cT, a', c', BO, by kernel_rfl, rfl, hI.step13 h9 h10 rfl ho hg hk, hB.step13 h10 hg hk, fun h => absurd (h18 h).1 (by simp), hN'⟩
   ·refine wpOp_inv rfl (fun K hK => ?_)
    obtain ⟨u', hu', bu, hb, _⟩ := boxes1 u Z.cells 58
    have hN' : Below W.heap.size W u' := hN.trans (hb.mono hN.size)
    refine step_alloc 58 Z.cells HZ ?_
    rw [hu'.out]
    exact hK.out _ _ ⟨HS.out _ hN', c2, c5, c6, c9, c10, c13, true, c18, X2, X5, X6, X9, X10, X13, _, X23, q, l', p0, p1, l0, l1, A6, A10, aT, cT, aH, cH, _, by kernel_rfl, rfl, hI.below hb, CopB.laid hI rfl bu, h18, hN'⟩
   ·refine wpOp_inv rfl (fun K hK => ?_)
    subst a2 a5 a6 a9 a10 a13
    obtain ⟨rfl, rfl, rfl, rfl, _⟩ := hI.whole
    rw [if_pos (by rfl)]
    refine step_build 58 #[(1, .tmp 7), (2, .tmp 10), (3, .tmp 14), (4, .tmp 18), (5, .tmp 20), (6, .tmp 22)] (run_buildEC u e q l' aT cT aH cH) rfl (by simp only [List.map_toArray, List.map_cons, List.map_nil]; rfl) ?_
    exact hK.out _ _ ⟨HS.out _ hN, true, true, true, true, true, true, c3, true, _, _, X6, _, X10, _, X3, _, q, l', p0, p1, l0, l1, A6, A10, aT, cT, aH, cH, BO, by kernel_rfl, rfl, hI, hB, fun _ => ⟨rfl, rfl⟩, hN⟩
 rintro l a u ⟨c2, c5, c6, c9, c10, c13, c3, c18, X2, X5, X6, X9, X10, X13, X3, X23, q, l', p0, p1, l0, l1, A6, A10, aT, cT, aH, cH, BO, rfl, rfl, hI, hB, h18, hN⟩ hst
 obtain ⟨rfl, rfl⟩ : c18 = true ∧ c3 = true := by simpa using hst
 clear hst
 obtain ⟨hcs, rfl⟩ := h18 rfl
 obtain ⟨rfl, rfl, rfl, rfl, rfl, rfl⟩ : c2 = true ∧ c5 = true ∧ c6 = true ∧ c9 = true ∧ c10 = true ∧ c13 = true := by simpa using hcs
 clear h18 hcs
 obtain ⟨rfl, rfl, rfl, rfl, hv2, hv5, _⟩ := hI.whole
 have hsh := copE_shape e q l' aT cT aH cH
 have HWH : Hid (∀ (t : EngA), t.disk.map pgv = e.disk.map pgv → (t.seats, t.aS, t.cS, t.hand, t.log, t.txs, t.aT, t.cT, t.holds, t.aH, t.cH, t.next, t.down) = (q.seats, q.a, q.c, q.hand, l', e.txs, aT, cT, e.holds, aH, cH, e.next, e.down) → t.v = e.v) := fun t h1 h2 => by
  have v2 := hv2.out
  have v5 := hv5.out
  simp only [Prod.mk.injEq] at h2
  obtain ⟨g1, g2, g3, g4, g5, g6, g7, g8, g9, g10, g11, g12, g13⟩ := h2
  simp only [PoolA.v, EngA.poolA, PoolV.mk.injEq] at v2
  simp only [EngA.v, g1, g4, g5, g6, g9, g12, g13, v2.1, v2.2, v5]
  congr 1
 obtain ⟨rfl, bu, hBl, _, _⟩ := hB.box rfl
 obtain ⟨ho, hBO⟩ := hI.eng hB
 clear hI hB hv2 hv5
 obtain ⟨u1, hu1, hw1, hs1, HT1, b1⟩ := eng_out hsh sZ bu
 have z1 := hw1.size
 have z2 := Nat.le_of_eq hs1
 have o1 : (copE e q l' aT cT aH cH).own u1 W.heap.size u1.heap.size := (ho.touch (within_touch hw1) (fun k hk hm => hBO (by rw [← List.mem_singleton.1 hm]; exact hk))).widen (Nat.le_refl _) (by omega) (Nat.le_refl _)
 have hN1 : Below W.heap.size W u1 := hN.trans (hw1.below hBl (by have := hN.size; omega))
 have hlB : BO < u1.heap.size := b1.lt
 show wpAnyH _ _ _ _ _ 1 _ _ _
 refine wpAnyH_ready (rs := [20]) (by kernel_rfl) (by simp) ?_
 refine AllReadyH.cons rfl (fun K hK => ?_) AllReadyH.nil
 rw [if_pos (by rfl)]
 refine wp_store_mid 58 (.tmp 3) (.tmp 23) rfl BO 0 (copE e q l' aT cT aH cH).cells.toArray rfl rfl HT1.out (by rw [List.size_toArray]; exact eng_info hsh) (all_oneCell_toArray (oneE _)) ?_
 rw [hu1.out]
 refine hK.out _ _ (HS.out _ hN1) (fun hHeld => ?_)
 clear hK K hHeld
 try simp only [Act.put, zA, zB, zC, zD, zE, zF]
 refine wpAnyH_done (by kernel_rfl) ?_ _
 clear bu ho hN hw1 hs1 HT1 hu1 z1 z2 HS
 have HT0 : Hid (∀ ts : List PageA, ts.map pgv = e.disk.map pgv → ({ (copE e q l' aT cT aH cH) with disk := ts } : EngA).v = e.v) := fun ts h => HWH.out _ h rfl
 clear HWH
 generalize copE e q l' aT cT aH cH = t0 at *
 have HD8 : Hid (t0.disk.length = 8 ∧ e.disk.length = 8) := ⟨hsh.eight, se.eight⟩
 have HFD : Hid (∀ p ∈ e.disk, Fit p.ss) := fun p hp s hs => by have := hl.disk p hp s hs; omega
 have b1' : Box u1 BO (cellsPs ([] ++ t0.disk.drop 0) ++ t0.tail) 58 := b1
 clear b1
 go_wp2_with fail
 go_loopw [4] (fun i wr => ∃ (k : Nat) (ts : List PageA), k ≤ 8 ∧ i = .int .i64 (k : Int) ∧ Hid (ts.length = k ∧ (∀ p ∈ ts, p.ss.length = 4) ∧ ts.map pgv = (e.disk.take k).map pgv) ∧ OwnS wr u1.heap.size wr.heap.size (slots8 ts) ∧ Box wr BO (cellsPs (ts ++ t0.disk.drop k) ++ t0.tail) 58 ∧ t0.own wr W.heap.size u1.heap.size ∧ Below W.heap.size W wr ∧ u1.heap.size ≤ wr.heap.size) (fun i _ => 8 - (intOf i).toNat)
 case atStart => exact ⟨0, [], Nat.zero_le _, rfl, ⟨rfl, fun p hp => by (simp at hp), rfl⟩, OwnS.nil _ _ _, b1', o1, hN1, Nat.le_refl _⟩
 case round =>
  obtain ⟨k, ts, hk, rfl, hts, hown, c1, ot, hnx, hsr⟩ := hrel
  clear b1' o1 hN1
  by_cases hlt : k < 8
  ·have hkl : k < e.disk.length := by rw [HD8.out.2]; exact hlt
   have hkt : k < t0.disk.length := by rw [HD8.out.1]; exact hlt
   have HP4 := se.disk8.at hlt
   have HZ4 := hsh.disk8.at hlt
   have F1 := HFD.out _ (pageD_mem (k := k) hkl)
   have R1 := (HR.out _ hnx).disk _ (pageD_mem (k := k) hkl)
   have HTK : Hid ((e.disk.take (k + 1)).map pgv = (e.disk.take k).map pgv ++ [pgv (e.disk.getD k zeroP)]) := by rw [Hid, List.take_succ_eq_append_getElem hkl, pageD_eq hkl, List.map_append]; rfl
   have HDR : t0.disk.drop k = t0.disk.getD k zeroP :: t0.disk.drop (k + 1) := by rw [← pageD_eq hkt]; exact List.drop_eq_getElem_cons hkt
   have rP : wr.rangeAt w.heap.size (k * 17) (e.disk.getD k zeroP).cells := by have := EngA.page_at se (HB.out _ hnx) k hkl; rwa [pageD_eq hkl] at this
   rw [HDR] at c1
   clear HDR
   generalize e.disk.getD k zeroP = p at *
   generalize t0.disk.getD k zeroP = zp at *
   have HIp := page_infoP p HP4
   have C1 := l3Copy_own p HP4 wr R1 F1
   have hi0 : (0 : Int) ≤ (k : Int) := by omega
   have hi8 : (k : Int) < 8 := by omega
   clear R1
   go_wp2_with (first | (guard_target = wpList _ _ _ (Oper.mk (some 32) _ _ _ _ _ :: _) _ _; refine wpList_load_mid rfl 47 (.tmp 31) rfl w.heap.size (k * 17) rfl (p.cells) _ rP Tryz.underlying47 rfl HIp ?_) | fail)
   refine C1.mono ?_
   clear C1 rP
   rintro r w1 ⟨us, rfl, hv, ho1, hb1⟩
   have hu4 : us.length = 4 := by have := congrArg List.length hv.out; simp only [List.length_map] at this; omega
   have s1 := hb1.size
   obtain ⟨q, hq⟩ : ∃ q : PageA, Hid ((⟨p.lsn, us⟩ : PageA) = q) := ⟨_, rfl⟩
   have hq4 : q.ss.length = 4 := by rw [← hq.out]; exact hu4
   have oq : OwnS w1 wr.heap.size w1.heap.size q.ss := by rw [← hq.out]; exact ho1
   have HQV : Hid (pgv q = pgv p) := by rw [Hid, ← hq.out]; simp only [pgv]; rw [hv.out]
   rw [hq.out]
   clear hq hv ho1 hu4
   replace c1 := c1.below hb1 c1.lt
   have hown1 := hown.below hb1
   replace hnx := hnx.trans (hb1.mono hnx.size)
   replace ot := ot.below hb1
   rw [cellsPs_app, cellsPs_cons, List.append_assoc, List.append_assoc] at c1
   obtain ⟨W2, hW2, d3, hw2, hs2⟩ := range_fill (cellsPs ts) zp.cells q.cells (cellsPs (t0.disk.drop (k + 1)) ++ t0.tail) c1 (by rw [page_len q hq4, page_len zp HZ4])
   have hl3 : (cellsPs ts).length = k * 17 := by rw [cellsPs_len _ hts.out.2.1, hts.out.1]
   rw [hl3] at hW2
   have HTH : Hid (w1.there BO (k * 17) q.cells.toArray.size) := c1.there _ _ (by rw [List.size_toArray, page_len q hq4, List.length_append, List.length_append, hl3, page_len zp HZ4]; omega)
   have s2 := hw2.size
   have d3' : Box W2 BO (cellsPs ((ts ++ [q]) ++ t0.disk.drop (k + 1)) ++ t0.tail) 58 := by
    rw [List.append_assoc, cellsPs_app, List.singleton_append, cellsPs_cons, List.append_assoc, List.append_assoc]; exact d3
   have HOW : Hid (OwnS W2 u1.heap.size W2.heap.size (slots8 (ts ++ [q])) ∧ t0.own W2 W.heap.size u1.heap.size) := by
    refine ⟨?_, ot.touch (within_touch hw2) (fun k hk hm => hBO (by rw [← List.mem_singleton.1 hm]; exact hk))⟩
    rw [slots8_app, slots8_cons]
    have o := (hown1.snocs oq (by omega) (by omega) (Nat.le_refl _))
    simpa [slots8] using (o.within hw2 (.inr (by omega))).widen (Nat.le_refl _) s2 (Nat.le_refl _)
   have HTS : Hid ((ts ++ [q]).length = k + 1 ∧ (∀ p ∈ ts ++ [q], p.ss.length = 4) ∧ (ts ++ [q]).map pgv = (e.disk.take (k + 1)).map pgv) := by
    refine ⟨by rw [List.length_append, hts.out.1]; rfl, fun x hx => ?_, ?_⟩
    ·rcases List.mem_append.1 hx with h | h
     ·exact hts.out.2.1 x h
     ·rw [List.mem_singleton.1 h]; exact hq4
    ·rw [HTK.out, List.map_append, hts.out.2.2, ← HQV.out]; rfl
   have HN : Hid (Below W.heap.size W W2 ∧ u1.heap.size ≤ W2.heap.size) := ⟨hnx.trans (hw2.below hBl (by have := hnx.size; omega)), by omega⟩
   have HIq : Hid ((Tryz.prog.info? 47).map (·.size) = some q.cells.toArray.size) := page_infoP q hq4
   have HOq := all_oneCell_toArray (oneP q)
   have HW2 : Hid (w1.setCells BO (k * 17) q.cells.toArray.toList = W2) := hW2.out
   clear c1 d3 hown hown1 oq hw2 hs2 hW2 hnx hts HTK HQV hl3 hb1 ot
   go_wp2_with (first | (guard_target = wpList _ _ _ (Oper.mk none (Op.store _ (Operand.tmp 35) _) _ _ _ _ :: _) _ _; refine wpList_store_mid rfl 47 (.tmp 35) (.tmp 33) rfl BO (k * 17) (q.cells).toArray rfl rfl HTH.out HIq.out HOq ?_) | fail)
   rw [HW2.out]
   go_roundw
   case rel => exact ⟨k + 1, ts ++ [q], by omega, by go_num, HTS, HOW.out.1, d3', HOW.out.2, HN.out.1, HN.out.2⟩
   case measure => simp [intOf]; omega
  ·obtain rfl : k = 8 := by omega
   have hkk : ¬ ((8 : Nat) : Int) < 8 := by omega
   obtain ⟨T, hT⟩ : ∃ T : EngA, Hid (({ t0 with disk := ts } : EngA) = T) := ⟨_, rfl⟩
   have sT : T.shape := by rw [← hT.out]; exact ⟨hts.out.1, hts.out.2.1⟩
   have bT : Box wr BO T.cells 58 := by
    have e0 : t0.disk.drop 8 = [] := List.drop_eq_nil_of_le (by rw [HD8.out.1]; exact Nat.le_refl _)
    rw [e0, List.append_nil] at c1
    rw [← hT.out]; exact c1
   have HV : Hid (T.v = e.v) := by rw [Hid, ← hT.out]; exact HT0.out ts (by rw [hts.out.2.2, ← HD8.out.2, List.take_length])
   have oT : T.own wr W.heap.size wr.heap.size := by
    rw [← hT.out]
    exact own_disk ot hown (by omega) hsr (Nat.le_refl _)
   have bR := HBR.out _ hnx
   obtain ⟨WF, hWF, hwF, hsF, HTF, bF⟩ := eng_out sT sZ bR
   have HLF' : Hid (_ = _) := eng_load sT bF
   have rT : wr.rangeAt BO 0 T.cells := Box.range [] T.cells [] (by simpa using bT)
   have HEND2 : Hid (T.own WF w.heap.size WF.heap.size ∧ Below w.heap.size w WF) := ⟨(oT.within hwF (.inr (by omega))).widen (by omega) (by omega) (Nat.le_refl _), (HEND.out _ hnx).trans (hwF.below (by omega) (by have := hnx.size; omega))⟩
   have HI := eng_info sT
   have HO := all_oneCell_toArray (oneE T)
   clear hwF hsF bF oT bT bR c1 hown ot hts hT
   go_wp2_with (first | (guard_target = wpList _ _ _ (Oper.mk (some 36) _ _ _ _ _ :: _) _ _; refine wpList_load_mid rfl 58 (.tmp 3) rfl BO 0 rfl (T.cells) _ rT Tryz.underlying58 rfl HI ?_) | (guard_target = wpList _ _ _ (Oper.mk none (Op.store _ (Operand.tmp 2) _) _ _ _ _ :: _) _ _; refine wpList_store_mid rfl 58 (.tmp 2) (.tmp 36) rfl (w.heap.size + 1) 0 (T.cells).toArray rfl rfl HTF.out (by rw [List.size_toArray]; exact HI) HO ?_) | fail)
   rw [hWF.out]
   exact bodyPost_ret (v := .agg T.cells.toArray) (results_one Tryz.results22 rfl HLF'.out) rfl ⟨T, rfl, sT, HV, HEND2.out.1, HEND2.out.2⟩
end Go.Proofs.YtpgeemdjghkjiabGreatDoor