/- Several texts in one, in their order. -/
import Derived.Test.YtpgeemdjghkjiabGreatDoorPCrashx11
import Derived.Test.YtpgeemdjghkjiabGreatDoorPCrashx6
import Derived.Test.YtpgeemdjghkjiabGreatDoorPCrashx10
import Derived.Test.YtpgeemdjghkjiabGreatDoorPCrashx4
import Derived.Test.YtpgeemdjghkjiabGreatDoorPCrashx7
import Derived.Test.YtpgeemdjghkjiabGreatDoorPCrashx8
import Derived.Deep.RegionLaw
import Derived.Deep.DrawnRows
import Derived.Test.YtpgeemdjghkjiabGreatDoorPCrashx9
import Derived.Test.YtpgeemdjghkjiabGreatDoorPCrashx3
import Derived.Deep.Cut
import Derived.Test.YtpgeemdjghkjiabGreatDoorPCrashx2
import Derived.Test.YtpgeemdjghkjiabGreatDoorPCrashx1
import Derived.Test.YtpgeemdjghkjiabGreatDoorPCrashx5
import Derived.Deep.MidRow
import Derived.Deep.RegionHeld3
set_option maxHeartbeats 8000000
set_option maxRecDepth 100000
namespace Go.Proofs.YtpgeemdjghkjiabGreatDoor
open Go.ChangeShapes Go.WideShapes Go.ChangeAt Go.RowKit
structure InEng (w : World) (e : EngA) : Prop where
 shape : e.shape
 reads : e.reads w
 wide : e.wide
theorem chunks (f : Nat → PageA) : ∀ (n : Nat) (cs : List Value), cs.length = n * 17 → (∀ i, i < n → (cs.drop (i * 17)).take 17 = (f i).cells) → cs = cellsPs ((List.range n).map f) := by
 intro n
 induction n with
 | zero => intro cs h _; simp only [Nat.zero_mul, List.length_eq_zero_iff] at h; subst h; rfl
 | succ n ih =>
  intro cs h hf
  have h1 := ih (cs.take (n * 17)) (by rw [List.length_take]; omega) (fun i hi => by
   rw [List.drop_take, List.take_take, Nat.min_eq_left (by omega)]
   exact hf i (by omega))
  have h2 := hf n (by omega)
  rw [List.take_of_length_le (by rw [List.length_drop]; omega)] at h2
  rw [List.range_succ, List.map_append, List.map_singleton, cellsPs_app, cellsPs_cons, ← h1, ← h2]
  simp [cellsPs]
section
variable {H : Type} {enc : TypeId × Value → H} {w : World} {base : Nat} {spare : Nat → Bool} {held : Bool}
theorem Tryz.cellsHd : Tryz.prog.cellsOf 131 = 2 := by kernel_rfl
theorem Tryz.cellsHds : Tryz.prog.cellsOf 38 = 1 := by kernel_rfl
theorem Tryz.cellsLvE : Tryz.prog.cellsOf 37 = 1 := by kernel_rfl
theorem Tryz.cellsP8 : Tryz.prog.cellsOf 30 = 136 := by kernel_rfl
theorem Tryz.cellsEg : Tryz.prog.cellsOf 40 = 144 := by kernel_rfl
theorem Tryz.cellsLgE : Tryz.prog.cellsOf 36 = 2 := by kernel_rfl
theorem trod_hold {fuel : Nat} {cs : List Value} {x : DataW H × List MemPlace} (h : DataW.trod enc Tryz.prog w base spare held fuel 131 cs = some x) : ∃ t : HoldV, cs = t.cells := by
 obtain ⟨xs, n, _, _, hlen, hxl, hf⟩ := DataW.trod_struct Tryz.underlying131 h
 rw [Tryz.cellsHd] at hlen
 match cs, hlen with
 | [v0, v1], _ =>
  have f0 := hf 0 _ rfl
  have f1 := hf 1 _ rfl
  obtain ⟨y0, hx0⟩ := some_at xs 0 (by rw [hxl]; decide)
  obtain ⟨y1, hx1⟩ := some_at xs 1 (by rw [hxl]; decide)
  rw [hx0] at f0
  rw [hx1] at f1
  simp only [List.getElem_toArray, List.getElem_cons_zero, List.getElem_cons_succ, Tryz.cellsI, List.drop, List.take] at f0 f1
  obtain ⟨a, e0, _⟩ := trod_num f0
  obtain ⟨b, e1, _⟩ := trod_num f1
  simp only [List.cons.injEq, and_true] at e0 e1
  subst e0 e1
  exact ⟨⟨a, b⟩, rfl⟩
theorem trod_holds {fuel : Nat} {cs : List Value} {x : DataW H × List MemPlace} (h : DataW.trod enc Tryz.prog w base spare held fuel 38 cs = some x) :
  ∃ (a : Option Addr) (c : Nat) (ls : List HoldV), cs = [.slice a ls.length c] ∧ ReadsH w a ls ∧ ls.length ≤ maxLen := by
 rcases DataW.trod_slice Tryz.underlying38 h with ⟨rfl, _⟩ | ⟨a, len, cap, elems, rest, n, _, rfl, _, _, hl, hm, hlen, hel, _, _⟩
 ·exact ⟨none, 0, [], rfl, ReadsH.nil _ _, by simp⟩
 rw [Tryz.cellsHd] at hel
 have each : ∀ i, i < len → ∃ t : HoldV, w.cells? base (a.add (i * 2)) 2 = some t.cells := by
  intro i hi
  have hy := hel i hi
  rw [List.getElem?_eq_getElem (by omega : i < elems.length), Option.bind_eq_some_iff] at hy
  obtain ⟨cs', hcs, hy'⟩ := hy
  obtain ⟨t, e⟩ := trod_hold hy'
  exact ⟨t, by rw [hcs, e]⟩
 obtain ⟨f, hf⟩ : ∃ f : Nat → HoldV, ∀ i, i < len → w.cells? base (a.add (i * 2)) 2 = some (f i).cells := by
  refine ⟨fun i => if h : i < len then (each i h).choose else zeroH, fun i hi => ?_⟩
  simp only [dif_pos hi]
  exact (each i hi).choose_spec
 refine ⟨some a, cap, (List.range len).map f, by simp, ?_, by simp; omega⟩
 intro hne
 have hpos := List.length_pos_iff.2 hne
 simp only [List.length_map, List.length_range] at hpos ⊢
 obtain ⟨b, off, spot⟩ := a
 have c0 := (World.cells?_some (hf 0 hpos)).2.2 0 (by decide)
 have hspot : spot = none := by simpa [Addr.add] using World.cell?_spot c0
 subst hspot
 refine ⟨b, off, rfl, fun k hk => ?_⟩
 have e : ((List.range len).map f).getD k zeroH = f k := by simp [List.getD, hk]
 rw [e]
 have hc := (World.cells?_some (hf k hk)).2.2
 have d0 := hc 0 (by decide)
 have d1 := hc 1 (by decide)
 simp only [Addr_add, HoldV.cells] at d0 d1
 exact ⟨by simpa using d0, by simpa using d1⟩
theorem trod_pages {fuel : Nat} {cs : List Value} {x : DataW H × List MemPlace} (h : DataW.trod enc Tryz.prog w base spare held fuel 30 cs = some x) (hl : cs.length = 136) :
  ∃ ps : List PageA, cs = cellsPs ps ∧ Disk8 ps ∧ ∀ p ∈ ps, ∀ s ∈ p.ss, InSlot w s := by
 obtain ⟨ys, m, _, _, _, hyl, hg⟩ := DataW.trod_array Tryz.underlying30 h
 have each : ∀ i, i < 8 → ∃ p : PageA, (cs.drop (i * 17)).take 17 = p.cells ∧ p.ss.length = 4 ∧ ∀ s ∈ p.ss, InSlot w s := by
  intro i hi
  have g := hg i hi
  obtain ⟨y, hy⟩ := some_at ys i (by omega)
  rw [hy, Tryz.cellsPg] at g
  obtain ⟨p, e, h4, _, hs⟩ := trod_page g
  exact ⟨p, e, h4, hs⟩
 obtain ⟨f, hf⟩ : ∃ f : Nat → PageA, ∀ i, i < 8 → (cs.drop (i * 17)).take 17 = (f i).cells ∧ (f i).ss.length = 4 ∧ ∀ s ∈ (f i).ss, InSlot w s := by
  refine ⟨fun i => if h : i < 8 then (each i h).choose else zeroP, fun i hi => ?_⟩
  simp only [dif_pos hi]
  exact (each i hi).choose_spec
 have hm : ∀ p ∈ (List.range 8).map f, ∃ i, i < 8 ∧ f i = p := fun p hp => by
  obtain ⟨i, hi, rfl⟩ := List.mem_map.1 hp
  exact ⟨i, List.mem_range.1 hi, rfl⟩
 refine ⟨(List.range 8).map f, chunks f 8 cs (by omega) (fun i hi => (hf i hi).1), ⟨by simp, fun p hp => ?_⟩, fun p hp => ?_⟩
 ·obtain ⟨i, hi, rfl⟩ := hm p hp
  exact (hf i hi).2.1
 ·obtain ⟨i, hi, rfl⟩ := hm p hp
  exact (hf i hi).2.2
theorem trod_eng {fuel : Nat} {cs : List Value} {x : DataW H × List MemPlace} (h : DataW.trod enc Tryz.prog w base spare held fuel 40 cs = some x) :
  ∃ e : EngA, cs = e.cells ∧ InEng w e := by
 obtain ⟨xs, n, _, _, hlen, hxl, hf⟩ := DataW.trod_struct Tryz.underlying40 h
 rw [Tryz.cellsEg] at hlen
 obtain ⟨ds, rs, rfl, hds, hrs⟩ : ∃ ds rs, cs = ds ++ rs ∧ ds.length = 136 ∧ rs.length = 8 := ⟨cs.take 136, cs.drop 136, (List.take_append_drop _ _).symm, by rw [List.length_take]; omega, by rw [List.length_drop]; omega⟩
 match rs, hrs with
 | [v0, v1, v2, v3, v4, v5, v6, v7], _ =>
  have f0 := hf 0 _ rfl
  have f1 := hf 1 _ rfl
  have f2 := hf 2 _ rfl
  have f3 := hf 3 _ rfl
  have f4 := hf 4 _ rfl
  have f5 := hf 5 _ rfl
  have f6 := hf 6 _ rfl
  obtain ⟨y0, hx0⟩ := some_at xs 0 (by rw [hxl]; decide)
  obtain ⟨y1, hx1⟩ := some_at xs 1 (by rw [hxl]; decide)
  obtain ⟨y2, hx2⟩ := some_at xs 2 (by rw [hxl]; decide)
  obtain ⟨y3, hx3⟩ := some_at xs 3 (by rw [hxl]; decide)
  obtain ⟨y4, hx4⟩ := some_at xs 4 (by rw [hxl]; decide)
  obtain ⟨y5, hx5⟩ := some_at xs 5 (by rw [hxl]; decide)
  obtain ⟨y6, hx6⟩ := some_at xs 6 (by rw [hxl]; decide)
  rw [hx0] at f0
  rw [hx1] at f1
  rw [hx2] at f2
  rw [hx3] at f3
  rw [hx4] at f4
  rw [hx5] at f5
  rw [hx6] at f6
  have dr : ∀ k, (ds ++ [v0, v1, v2, v3, v4, v5, v6, v7]).drop (136 + k) = [v0, v1, v2, v3, v4, v5, v6, v7].drop k := fun k => by rw [← hds, ← List.drop_drop, List.drop_left]
  have d0 := dr 0
  have d2 := dr 2
  have d4 := dr 4
  have d5 := dr 5
  have d6 := dr 6
  have d7 := dr 7
  simp only [Nat.add_zero, Nat.reduceAdd] at d0 d2 d4 d5 d6 d7
  simp only [List.getElem_toArray, List.getElem_cons_zero, List.getElem_cons_succ, Tryz.cellsI, Tryz.cellsB, Tryz.cellsP8, Tryz.cellsPl, Tryz.cellsLgE, Tryz.cellsLvE, Tryz.cellsHds, List.drop_zero] at f0 f1 f2 f3 f4 f5 f6
  rw [← hds, List.take_left] at f0
  rw [d0] at f1
  rw [d2] at f2
  rw [d4] at f3
  rw [d5] at f4
  rw [d6] at f5
  rw [d7] at f6
  simp only [List.drop, List.take] at f1 f2 f3 f4 f5 f6
  obtain ⟨ps, e0, hp8, hps⟩ := trod_pages f0 hds
  obtain ⟨pl, e1, hpl⟩ := trod_pool f1
  obtain ⟨lg, e2, hlg⟩ := trod_log f2
  obtain ⟨aT, cT, ls, e3, hL, lL⟩ := trod_lives f3
  obtain ⟨aH, cH, hs, e4, hH, lH⟩ := trod_holds f4
  obtain ⟨nx, e5, _⟩ := trod_num f5
  obtain ⟨dn, e6, _⟩ := DataW.trod_bool Tryz.underlying4 f6
  simp only [PoolA.cells, LogA.cells, List.cons.injEq, and_true] at e1 e2 e3 e4 e5 e6
  obtain ⟨rfl, rfl⟩ := e1
  obtain ⟨rfl, rfl⟩ := e2
  subst e0 e3 e4 e5 e6
  simp only [maxLen] at lL lH
  refine ⟨⟨ps, pl.seats, pl.a, pl.c, pl.hand, lg, ls, aT, cT, hs, aH, cH, nx, dn⟩, rfl, ⟨hp8.eight, hp8.four⟩, ⟨fun p hp s hs => (hps p hp s hs).reads, hpl.reads, hlg.reads, hL, hH⟩, ⟨fun p hp s hs => ?_, hpl.short, hlg.short, by show ls.length ≤ _; omega, by show hs.length ≤ _; omega⟩⟩
  have h1 := (hps p hp s hs).lI
  have h2 := (hps p hp s hs).lR
  simp only [maxLen] at h1 h2
  omega
theorem open_eng {b0 : Nat} {v : Value} {d : DataW H} {ps : List MemPlace} (hval : Value.okWide Tryz.prog w .any b0 40 v) (h : DataW.Trod enc Tryz.prog w base spare held 40 v d ps) :
  ∃ e : EngA, v = .agg e.cells.toArray ∧ InEng w e := by
 obtain ⟨cs, rfl, hcs⟩ := okWide_struct Tryz.underlying40 hval
 obtain ⟨fuel, hf⟩ := h
 have e : (Value.agg cs).cells.toList = cs.toList := rfl
 rw [e] at hf
 obtain ⟨r, hc, rest⟩ := trod_eng hf
 refine ⟨r, ?_, rest⟩
 congr 1
 rw [← hc]
end
end Go.Proofs.YtpgeemdjghkjiabGreatDoor
namespace Go.Proofs.YtpgeemdjghkjiabGreatDoor
open Go.RowKit
theorem EngA.short_of {l t : EngA} {m : Nat} (h : t.v = l.v) (hl : l.short m) : t.short m := by
 simp only [EngA.v, EngV.mk.injEq] at h
 obtain ⟨h1, h2, h3, h4, h5, h6, _, _⟩ := h
 refine ⟨fun p hp x hx => ?_, PoolA.short_of (l := l.poolA) (t := t.poolA) (by simp only [PoolA.v, PoolV.mk.injEq]; exact ⟨h2, h3⟩) hl.pool, LogA.short_of h4 hl.log, by rw [h5]; exact hl.txs, by rw [h6]; exact hl.holds⟩
 have hm : (p.lsn, p.ss.map (·.v)) ∈ t.disk.map (fun p => (p.lsn, p.ss.map (·.v))) := List.mem_map.2 ⟨p, hp, rfl⟩
 rw [h1] at hm
 obtain ⟨q, hq, he⟩ := List.mem_map.1 hm
 have hs : q.ss.map (·.v) = p.ss.map (·.v) := (Prod.mk.inj he).2
 have hx' : x.v ∈ p.ss.map (·.v) := List.mem_map.2 ⟨x, hx, rfl⟩
 rw [← hs] at hx'
 obtain ⟨y, hy, hv⟩ := List.mem_map.1 hx'
 rw [← hv]
 exact hl.disk q hq y hy
theorem EngA.short_wide {e : EngA} (h : e.short 1048576) : e.short 1099511627776 :=
 ⟨fun p hp x hx => by have := h.disk p hp x hx; omega, PoolA.short_wide h.pool, LogA.short_wide h.log, by have := h.txs; omega, by have := h.holds; omega⟩
theorem l6CopySeat_own (s : SeatA) (w : World) (hr : s.reads w) (hl : s.short 1099511627776) :
  Calls Tryz.prog 131 #[.agg s.cells.toArray] w fun e w' => ∃ t : SeatA, e = .returned (.agg t.cells.toArray) ∧ Hid (t.v = s.v) ∧ t.own w' w.heap.size w'.heap.size ∧ Below w.heap.size w w' := by
 obtain ⟨W, hW, b0, b1, hbW, hsW⟩ := boxes2 w s.cells [.int .i64 0, .int .i64 0, .bool false, .int .i64 0, .slice none 0 0, .slice none 0 0, .bool false, .int .i64 0, .slice none 0 0, .slice none 0 0, .bool false, .int .i64 0, .slice none 0 0, .slice none 0 0, .bool false, .int .i64 0, .slice none 0 0, .slice none 0 0, .bool false, .bool false] 149 149
 have b1' : Box W (w.heap.size + 1) zeroSt.cells 149 := b1
 have hs0 : w.heap.size + 1 < W.heap.size := by omega
 have hrg0 : W.rangeAt w.heap.size 1 s.page.cells := seat_page s b0
 have HL := Tryz.infoPg s.page rfl
 have C := l3Copy_own s.page rfl W (hr.below hbW) hl
 clear hsW b1
 go_enter Tryz.func131, Tryz.ntmps131
 go_upto_region 1 with fail
 rw [hW.out]
 clear hW
 go_wp2_with (first | (guard_target = wpList _ _ _ (Oper.mk (some 4) _ _ _ _ _ :: _) _ _; refine wpList_load_mid rfl 47 (.tmp 3) rfl w.heap.size 1 rfl s.page.cells _ hrg0 Tryz.underlying47 rfl HL ?_) | fail)
 clear hrg0 HL
 refine C.mono ?_
 clear C
 rintro e w1 ⟨ts, rfl, hv, ho, hb1⟩
 obtain ⟨y0, y1, y2, y3, rfl⟩ := four_slots' (ts := ts) (by have := congrArg List.length hv.out; simpa [SeatA.page, SeatA.ss] using this)
 have hs1 := hb1.size
 have b01 := b0.below hb1 b0.lt
 have b11 := b1'.below hb1 b1'.lt
 obtain ⟨W2, hW2, b02, hw2, hs2, hth2⟩ := seat_fill s b01 s.page.lsn y0 y1 y2 y3
 obtain ⟨q, hq⟩ : ∃ q : SeatA, Hid ((⟨s.no, s.page.lsn, y0, y1, y2, y3, s.dirty, s.hot⟩ : SeatA) = q) := ⟨_, rfl⟩
 rw [hq.out] at b02
 have b12 := b11.within hw2 (by omega)
 obtain ⟨WF, hWF, hwF, hsF, HTF, HLF, bF⟩ := seat_out q _ rfl b12
 have r4 : W2.rangeAt w.heap.size 0 q.cells := Box.range [] q.cells [] (by simpa using b02)
 have oq : q.own w1 W.heap.size w1.heap.size := by rw [← hq.out]; exact ho
 have HV : Hid (q.v = s.v) := by rw [Hid, ← hq.out]; simp only [SeatA.v, SeatA.ss]; rw [show List.map (fun x : SlotA => x.v) [y0, y1, y2, y3] = s.page.ss.map (·.v) from hv.out]; rfl
 have HFIN : Hid (q.own WF w.heap.size WF.heap.size ∧ Below w.heap.size w WF) := ⟨((oq.within hw2 (.inr (by omega))).within hwF (.inr (by omega))).widen (by omega) (by omega) (Nat.le_refl _), ((hbW.trans (hb1.mono (by omega))).trans (hw2.below (by omega) (by omega))).trans (hwF.below (by omega) (by omega))⟩
 have HI1 := Tryz.infoPg ⟨s.page.lsn, [y0, y1, y2, y3]⟩ rfl
 have HO1 := page_one ⟨s.page.lsn, [y0, y1, y2, y3]⟩
 have HI2 := seat_info q
 have HO2 := seat_one q
 have HW2 : Hid (w1.setCells w.heap.size 1 (PageA.cells ⟨s.page.lsn, [y0, y1, y2, y3]⟩).toArray.toList = W2) := hW2.out
 have HWF : Hid (W2.setCells (w.heap.size + 1) 0 q.cells.toArray.toList = WF) := hWF.out
 have HTF' : W2.there (w.heap.size + 1) 0 q.cells.toArray.size := HTF.out
 clear hW2 hWF HTF hq hs1 hs2 hsF hw2 hwF b01 b11 b02 b12 bF oq ho hv hb1 b0 b1' hbW
 generalize PageA.cells ⟨s.page.lsn, [y0, y1, y2, y3]⟩ = pc at *
 go_wp2_with (first | (guard_target = wpList _ _ _ (Oper.mk none (Op.store _ (Operand.tmp 6) _) _ _ _ _ :: _) _ _; refine wpList_store_mid rfl 47 (.tmp 6) (.tmp 5) rfl w.heap.size 1 pc.toArray rfl rfl hth2 (by rw [List.size_toArray]; exact HI1) HO1 ?_; rw [HW2.out]) | (guard_target = wpList _ _ _ (Oper.mk (some 7) _ _ _ _ _ :: _) _ _; refine wpList_load_mid rfl 149 (.tmp 1) rfl w.heap.size 0 rfl q.cells _ r4 Tryz.underlying149 rfl HI2 ?_) | (guard_target = wpList _ _ _ (Oper.mk none (Op.store _ (Operand.tmp 2) _) _ _ _ _ :: _) _ _; refine wpList_store_mid rfl 149 (.tmp 2) (.tmp 7) rfl (w.heap.size + 1) 0 q.cells.toArray rfl rfl HTF' (by rw [List.size_toArray]; exact HI2) HO2 ?_; rw [HWF.out]) | fail)
 exact bodyPost_ret (v := .agg q.cells.toArray) (results_one Tryz.results131 rfl HLF.out) rfl ⟨q, rfl, HV, HFIN.out.1, HFIN.out.2⟩
theorem run_append_seat {w : World} (ty : TypeId) (lo hi : Nat) (a : Option Addr) (c : Nat) (rs : List SeatA) (hown : OwnSts w lo hi a c rs)
  (b off : Nat) (sc : Nat) (q : SeatA) (hr : w.rangeAt b off q.cells) (l u : Nat) (hq : q.own w l u) (hl : hi ≤ l) (hu : u ≤ w.heap.size)
  (hb : rs.length + 1 ≤ 68719476736) (hlo : lo ≤ hi) :
  ∃ a' c' w', (Builtin.append_ #[49, 49] ty #[.slice a rs.length c, .slice (some ⟨b, off, none⟩) 1 sc]).run Tryz.prog w = .ok (.slice a' (rs ++ [q]).length c') w' ∧ OwnSts w' lo w'.heap.size a' c' (rs ++ [q]) ∧ w.grownBy w' (Value.slice a rs.length c).ownBlock ∧
   (∀ k, (Value.slice a' (rs ++ [q]).length c').ownBlock = some k → (Value.slice a rs.length c).ownBlock = some k ∨ k = w.heap.size) := by
 obtain ⟨i0, hi0, hz0, hz1, hz2⟩ := info_parts Tryz.infoSeat
 have hqb := hq.blocks_lt
 have htop := hown.top
 obtain ⟨v', w', hrun, h1, h2, _, h5⟩ := run_append_own_at (P := Tryz.prog) w lo 49 ty 149 i0 (.agg zeroSt.cells.toArray) 20 280 Tryz.underlying49 hi0 hz0 hz1 hz2 rfl (by decide) _ _ _ hown.row ⟨b, off, none⟩ 1 sc q.cells (by rfl) (by
  intro j v hj
  rw [Addr_add]
  exact hr j v hj) (oneSt q) (by simp only [maxLen]; omega) (by omega) (by omega)
 have e : cellsSts rs ++ q.cells = cellsSts (rs ++ [q]) := by rw [cellsSts_app, cellsSts_cons]; simp [cellsSts]
 have e2 : rs.length + 1 = (rs ++ [q]).length := by simp
 rw [e, e2] at h1
 have sh : ∃ a' c', v' = .slice a' (rs ++ [q]).length c' := by
  rcases h1.2 with ⟨rfl, h0⟩ | ⟨g, cap, cur, rfl, _⟩
  ·simp at h0
  ·exact ⟨_, _, rfl⟩
 obtain ⟨a', c', rfl⟩ := sh
 have hsz := h2.size
 have ht : Touch (Value.slice a rs.length c).ownBlock.toList w w' := Touch.of_grown h2 (fun k hk => Option.mem_toList.2 hk)
 have hrow := h1.lt
 have hold : ∀ r ∈ rs, r.own w' lo w'.heap.size := fun r hr => ((hown.each r hr).touch ht (fun k hk hk' => (List.nodup_append.1 hown.apart).2.2 k hk' k (List.mem_flatMap.2 ⟨r, hr, hk⟩) rfl)).widen (Nat.le_refl _) (by omega) (Nat.le_refl _)
 have hnew : q.own w' lo w'.heap.size := (hq.touch ht (fun k hk hk' => by have := hqb k hk; have := hown.blk k (Option.mem_toList.1 hk'); omega)).widen (by omega) (by omega) (Nat.le_refl _)
 refine ⟨a', c', w', hrun, ⟨h1, Nat.le_refl _, fun k hk => (hrow k hk).2, fun r hr => ?_, ?_⟩, h2, fun k hk => h5.elim (fun h5 => .inl (by rw [← h5]; exact hk)) (fun h5 => by rw [h5] at hk; exact .inr (Option.some.inj hk).symm)⟩
 ·rcases List.mem_append.1 hr with hr | hr
  ·exact hold r hr
  ·obtain rfl := List.mem_singleton.1 hr
   exact hnew
 ·rw [List.flatMap_append, List.nodup_append, List.nodup_append]
  have hap := (List.nodup_append.1 hown.apart).2.1
  have hin : ∀ x ∈ rs.flatMap SeatA.blocks, lo ≤ x ∧ x < hi := fun x hx => by
   obtain ⟨r, hr, hx⟩ := List.mem_flatMap.1 hx
   exact (hown.each r hr).blocks_lt x hx
  refine ⟨by cases (Value.slice a' (rs ++ [q]).length c').ownBlock <;> simp, ⟨hap, by simpa using hq.apart, fun x hx y hy e => ?_⟩, fun x hx y hy e => ?_⟩
  ·have := hin x hx
   simp only [List.flatMap_cons, List.flatMap_nil, List.append_nil] at hy
   have := hqb y hy
   omega
  ·have hx' := Option.mem_toList.1 hx
   subst e
   rcases List.mem_append.1 hy with hy | hy
   ·obtain ⟨r, hr, hy⟩ := List.mem_flatMap.1 hy
    exact rowSt_apart h1 (hold r hr) x hx' hy
   ·simp only [List.flatMap_cons, List.flatMap_nil, List.append_nil] at hy
    exact rowSt_apart h1 hnew x hx' hy
theorem step_append_seat {w : World} {ops : Array Oper} {o : Oper} {act : Act} {K : Act → World → Prop} {Q : Exit → Act → World → Prop} {E : Prop} (hgd : o.guard = none) (s x : Operand)
  (ho : o.op = .call { callee := .builtin .append, args := #[s, x], argTypes := #[49, 49] })
  (lo hi : Nat) (a : Option Addr) (c : Nat) (rs : List SeatA) (hs : act.eval s = .slice a rs.length c) (hown : OwnSts w lo hi a c rs)
  (b off : Nat) (sc : Nat) (q : SeatA) (hx : act.eval x = .slice (some ⟨b, off, none⟩) 1 sc) (hr : w.rangeAt b off q.cells) (l u : Nat) (hq : q.own w l u) (hl : hi ≤ l) (hu : u ≤ w.heap.size)
  (hb : rs.length + 1 ≤ 68719476736) (hlo : lo ≤ hi)
  (h : ∀ a' c' w', OwnSts w' lo w'.heap.size a' c' (rs ++ [q]) → w.grownBy w' (Value.slice a rs.length c).ownBlock → (∀ k, (Value.slice a' (rs ++ [q]).length c').ownBlock = some k → (Value.slice a rs.length c).ownBlock = some k ∨ k = w.heap.size) → K (act.put o.dst (.slice a' (rs ++ [q]).length c')) w') :
  if Region.wanted o (yielded ops act.tmps) = true then Oper.wp Tryz.prog o act w K Q else E := by
 have hw : Region.wanted o (yielded ops act.tmps) = true := by simp [Region.wanted, hgd]
 rw [if_pos hw]
 obtain ⟨a', c', w', hrun, h2, h3, h4⟩ := run_append_seat (w := w) o.type lo hi a c rs hown b off sc q hr l u hq hl hu hb hlo
 unfold Oper.wp
 simp [execOp, ho, resolve, invoke, builtin, hs, hx, hrun, Result.andThen]
 have := h a' c' w' h2 h3 h4
 rw [List.length_append, List.length_singleton] at this
 exact this
end Go.Proofs.YtpgeemdjghkjiabGreatDoor
namespace Go.Proofs.YtpgeemdjghkjiabGreatDoor
open Go.RowKit
attribute [local go_sem ↓] Go.wp_at_zero Go.wp_at_succ
theorem l6Copy_any (l : PoolA) (w : World) (hr : l.reads w) (hl : l.short 1048576) :
  Calls Tryz.prog 69 #[.agg l.cells.toArray] w fun e w' => ∃ t : PoolA, e = .returned (.agg t.cells.toArray) ∧ Hid (t.v = l.v) ∧ t.own w' w.heap.size w'.heap.size ∧ Below w.heap.size w w' := by
 obtain ⟨rs, s, a, c⟩ := l
 have hl2 := (PoolA.short_wide hl).each
 have hl0 := hl.len
 simp only [PoolA.reads, PoolA.cells, PoolA.own] at *
 obtain ⟨W, hW, b0, b1, b2, hbW, hsW⟩ := boxes3 w [.slice a rs.length c, .int .i64 s] [.slice none 0 0, .int .i64 0] [.slice none 0 0, .int .i64 s] 51 51 51
 have hs0 : w.heap.size + 1 + 1 < W.heap.size := by omega
 clear hsW
 have x0 := b0.cell 0 _ rfl
 have x1 := b0.cell 1 _ rfl
 have HC : Hid (∀ k, k < rs.length → ∃ b off, a = some ⟨b, off, none⟩ ∧ w.rangeAt b (off + k * 20) (rs.getD k zeroSt).cells ∧ (rs.getD k zeroSt).reads w ∧ (rs.getD k zeroSt).short 1099511627776) := fun k hk => by
  obtain ⟨b, off, ha, hc⟩ := hr (by intro e; rw [e] at hk; simp at hk)
  exact ⟨b, off, ha, (hc k hk).1, (hc k hk).2, hl2 _ (seatD_mem rs k hk)⟩
 have HI : Hid ((Tryz.prog.info? 149).map (·.size) = some 20) := by rw [Hid]; kernel_rfl
 clear hr hl hl2
 go_enter Tryz.func69, Tryz.ntmps69
 go_wp2_with fail
 rw [hW.out]
 clear hW x0 x1
 go_loopw [4] (fun i wr => ∃ (k : Nat) (ts : List SeatA) (a' : Option Addr) (c' : Nat), k ≤ rs.length ∧ i = .int .i64 k ∧ Hid (CameSt rs ts k) ∧ Box wr (w.heap.size + 1 + 1) [.slice a' ts.length c', .int .i64 s] 51 ∧ Box wr w.heap.size [.slice a rs.length c, .int .i64 s] 51 ∧ Box wr (w.heap.size + 1) [.slice none 0 0, .int .i64 0] 51 ∧ OwnSts wr W.heap.size wr.heap.size a' c' ts ∧ Below w.heap.size w wr ∧ W.heap.size ≤ wr.heap.size)
  (fun i _ => rs.length - (intOf i).toNat)
 case atStart => exact ⟨0, [], none, 0, Nat.zero_le _, rfl, cameSt_none rs, b2, b0, b1, ownSts_nil _ _ _ (Nat.le_refl _), hbW, Nat.le_refl _⟩
 case round =>
  obtain ⟨k, ts, a', c', hk, rfl, hc, k2, k0, k1, hown, hnx, hsz⟩ := hrel
  clear b0 b1 b2 hbW
  have x0 := k0.cell 0 _ rfl
  by_cases hlt : k < rs.length
  ·obtain ⟨b, off, rfl, hcell, hrd, hsh⟩ := HC.out k hlt
   have hbB := rangeSt_lt hcell
   have hnw := hnx.size
   have HR : Hid (∀ u, Below w.heap.size w u → u.rangeAt b (off + k * 20) (rs.getD k zeroSt).cells) := fun u hu => rangeAt_below hcell hu hbB
   have HS : Hid (∀ q : SeatA, q.v = (rs.getD k zeroSt).v → CameSt rs (ts ++ [q]) (k + 1)) := fun q hq => hc.out.snoc hlt hq
   have HL : Hid (ts.length = k) := hc.out.1
   clear hcell HC
   generalize rs.getD k zeroSt = z at *
   have e0 := k2.cell 0 _ rfl
   have HSS : Hid (∀ u, Below w.heap.size w u → Box u w.heap.size [.slice (some ⟨b, off, none⟩) rs.length c, .int .i64 s] 51 → u.rangeAt b (off + k * 20) z.cells ∧ u.cell? ⟨w.heap.size, 0, none⟩ = some (.slice (some ⟨b, off, none⟩) rs.length c)) := fun u h1 h2 => ⟨HR.out u h1, h2.cell 0 _ rfl⟩
   go_wp2_with fail
   refine wp_region_held_drew (S := fun w' => w'.rangeAt b (off + k * 20) z.cells ∧ w'.cell? ⟨w.heap.size, 0, none⟩ = some (.slice (some ⟨b, off, none⟩) rs.length c)) (by kernel_rfl) ?_ (fun hHeld => ?_)
   ·exact HSS.out _ hnx.drew (k0.drewN 1)
   refine tk 0 (v := .pointer (some ⟨w.heap.size + 1 + 1, 0, none⟩)) rfl (Or.inl ⟨by rfl, ?_⟩) hHeld ?_
   ·intro w' hSw
    go_simp <;> rfl
   try simp only [Act.put, zA, zB, zD, zE, zF]
   refine tk 2 (v := .pointer (some ⟨w.heap.size, 0, none⟩)) rfl (Or.inl ⟨by rfl, ?_⟩) hHeld ?_
   ·intro w' hSw
    go_simp <;> rfl
   try simp only [Act.put, zA, zB, zC, zD, zE, zF]
   refine tk 3 (v := .slice (some ⟨b, off, none⟩) rs.length c) rfl (Or.inl ⟨by rfl, ?_⟩) hHeld ?_
   ·intro w' hSw
    have hx := hSw.2
    go_simp <;> rfl
   try simp only [Act.put, zA, zB, zC, zD, zE, zF]
   refine tk 4 (v := .int .i64 k) rfl (Or.inl ⟨by rfl, ?_⟩) hHeld ?_
   ·intro w' hSw
    go_simp <;> rfl
   try simp only [Act.put, zA, zB, zC, zD, zE, zF]
   refine tk 5 (v := .pointer (some ⟨b, off + k * 20, none⟩)) rfl (Or.inl ⟨by rfl, ?_⟩) hHeld ?_
   ·intro w' hSw
    go_simp <;> rfl
   try simp only [Act.put, zA, zB, zC, zD, zE, zF]
   refine tk 6 rfl (yieldsIf_load_mid (by rfl) _ _ rfl _ _ rfl z.cells _ (fun _ h => h.1) Tryz.underlying149 rfl HI.out) hHeld ?_
   try simp only [Act.put, zA, zB, zC, zD, zE, zF]
   have hnd : Below wr.heap.size wr wr.drew := (Below.refl _ _).drew
   have C := l6CopySeat_own z wr.drew (hrd.below hnx.drew) hsh
   refine wpAnyH_ready (rs := [1, 7]) (by kernel_rfl) (by simp) ?_
   refine AllReadyH.cons rfl (fun K hK => ?_) (AllReadyH.cons rfl (fun K hK => ?_) AllReadyH.nil)
   ·go_simp
    refine hK.out _ _ (hHeld) (fun hHeld => ?_)
    clear hK K
    try simp only [Act.put, zA, zB, zC, zD, zE, zF]
    refine wpAnyH_ready (rs := [7]) (by kernel_rfl) (by simp) ?_
    refine AllReadyH.cons rfl (fun K hK => ?_) AllReadyH.nil
    go_simp
    refine C.mono ?_
    clear C
    rintro e u2 ⟨q, rfl, hq, hqo, hb2⟩
    have hb2' : Below wr.heap.size wr u2 := hnd.trans hb2
    have hn2 : Below w.heap.size w u2 := hnx.trans (hb2'.mono hnw)
    have k22 := k2.below hb2' k2.lt
    have k02 := k0.below hb2' k0.lt
    have k12 := k1.below hb2' k1.lt
    have o2 := hown.below hb2'
    have hqo2 : q.own u2 wr.heap.size u2.heap.size := hqo
    have hs2 := hb2'.size
    refine hK.out _ _ (HSS.out _ hn2 k02) (fun hHeld => ?_)
    clear hK K
    try simp only [Act.put, zA, zB, zC, zD, zE, zF]
    refine wpAnyH_ready (rs := [8]) (by kernel_rfl) (by simp) ?_
    refine AllReadyH.cons rfl (fun K hK => ?_) AllReadyH.nil
    go_simp
    simp only [cellsSt_len, lit_seat, not_true_eq_false, Nat.lt_irrefl, or_self, if_false]
    go_simp
    obtain ⟨W3, hW3, b3, hb3, hs3⟩ := boxes1 u2 q.cells 149
    rw [hW3.out]
    have hn3 : Below w.heap.size w W3 := hn2.trans (hb3.mono hn2.size)
    have k23 := k22.below hb3 k22.lt
    have k03 := k02.below hb3 k02.lt
    have k13 := k12.below hb3 k12.lt
    have o3 := o2.below hb3
    have hqo3 := hqo2.below hb3
    have r3 : W3.rangeAt u2.heap.size 0 q.cells := Box.range [] q.cells [] (by simpa using b3)
    have hs3' := b3.lt
    clear hs3 hb3 hW3 b3 k02 k12 o2 hqo2
    refine hK.out _ _ (HSS.out _ hn3 k03) (fun hHeld => ?_)
    clear hK K
    try simp only [Act.put, zA, zB, zC, zD, zE, zF]
    have hll : ts.length + 1 ≤ 68719476736 := by have := HL.out; omega
    refine wpAnyH_ready (rs := [9]) (by kernel_rfl) (by simp) ?_
    refine AllReadyH.cons rfl (fun K hK => ?_) AllReadyH.nil
    refine step_append_seat rfl (.tmp 16) (.tmp 23) rfl W.heap.size wr.heap.size a' c' ts rfl o3 u2.heap.size 0 1 q rfl r3 wr.heap.size u2.heap.size hqo3 (Nat.le_refl _) (by omega) hll hsz ?_
    intro a9 c9 w9 o9 g9 _
    have HCM := HS.out q hq.out
    obtain ⟨ys, hys⟩ : ∃ ys, Hid (ts ++ [q] = ys) := ⟨_, rfl⟩
    rw [hys.out] at o9 HCM ⊢
    have hw9 : Within W.heap.size wr.heap.size W3 w9 := Within.of_grown g9 (fun j hj => ⟨(o3.row.lt j hj).1, o3.blk j hj⟩)
    have hs9 := hw9.size
    have hn9 : Below w.heap.size w w9 := hn3.trans (hw9.below (by omega) (by omega))
    have k29 := k23.within hw9 (by omega)
    have k09 := k03.within hw9 (by omega)
    have k19 := k13.within hw9 (by omega)
    refine hK.out _ _ (HSS.out _ hn9 k09) (fun hHeld => ?_)
    clear hK K hw9 g9 o3 r3 hqo3 k23 k03 k13
    try simp only [Act.put, zA, zB, zC, zD, zE, zF]
    refine tk 10 (v := .pointer (some ⟨w.heap.size + 1 + 1, 0, none⟩)) rfl (Or.inl ⟨by rfl, ?_⟩) hHeld ?_
    ·intro w' hSw
     go_simp <;> rfl
    try simp only [Act.put, zA, zB, zC, zD, zE, zF]
    have m0 := k29.cell 0 _ rfl
    have mf0 := k29.frozen 0
    obtain ⟨WF, hWF, kF, hwF, hsF⟩ := box_set k29 0 (.slice a9 ys.length c9)
    simp only [List.set] at kF
    have hsFa := Nat.le_of_eq hsF
    have hsFb := Nat.le_of_eq hsF.symm
    clear hsF
    have k0F := k09.within hwF (by omega)
    have k1F := k19.within hwF (by omega)
    have oF := (o9.within hwF (.inr (by omega))).widen (Nat.le_refl _) hsFb (Nat.le_refl _)
    have hnF : Below w.heap.size w WF := hn9.trans (hwF.below (by omega) (by omega))
    clear hwF k29 k09 k19 o9
    refine wpAnyH_ready (rs := [11]) (by kernel_rfl) (by simp) ?_
    refine AllReadyH.cons rfl (fun K hK => ?_) AllReadyH.nil
    go_simp
    rw [hWF.out]
    refine hK.out _ _ (HSS.out _ hnF k0F) (fun hHeld => ?_)
    clear hK K
    try simp only [Act.put, zA, zB, zC, zD, zE, zF]
    refine wpAnyH_done (by kernel_rfl) ?_ _
    clear m0 mf0 hWF
    go_wp2_with fail
    go_roundw
    case rel => exact ⟨k + 1, ys, a9, c9, by omega, by go_num, HCM, kF, k0F, k1F, oF, hnF, by omega⟩
    case measure => simp [intOf]; omega
   ·go_simp
    refine C.mono ?_
    clear C
    rintro e u2 ⟨q, rfl, hq, hqo, hb2⟩
    have hb2' : Below wr.heap.size wr u2 := hnd.trans hb2
    have hn2 : Below w.heap.size w u2 := hnx.trans (hb2'.mono hnw)
    have k22 := k2.below hb2' k2.lt
    have k02 := k0.below hb2' k0.lt
    have k12 := k1.below hb2' k1.lt
    have o2 := hown.below hb2'
    have hqo2 : q.own u2 wr.heap.size u2.heap.size := hqo
    have hs2 := hb2'.size
    refine hK.out _ _ (HSS.out _ hn2 k02) (fun hHeld => ?_)
    clear hK K
    try simp only [Act.put, zA, zB, zC, zD, zE, zF]
    refine wpAnyH_ready (rs := [1, 8]) (by kernel_rfl) (by simp) ?_
    refine AllReadyH.cons rfl (fun K hK => ?_) (AllReadyH.cons rfl (fun K hK => ?_) AllReadyH.nil)
    ·have d0 := k22.cell 0 _ rfl
     go_simp
     refine hK.out _ _ (hHeld) (fun hHeld => ?_)
     clear hK K
     try simp only [Act.put, zA, zB, zC, zD, zE, zF]
     refine wpAnyH_ready (rs := [8]) (by kernel_rfl) (by simp) ?_
     refine AllReadyH.cons rfl (fun K hK => ?_) AllReadyH.nil
     go_simp
     simp only [cellsSt_len, lit_seat, not_true_eq_false, Nat.lt_irrefl, or_self, if_false]
     go_simp
     obtain ⟨W3, hW3, b3, hb3, hs3⟩ := boxes1 u2 q.cells 149
     rw [hW3.out]
     have hn3 : Below w.heap.size w W3 := hn2.trans (hb3.mono hn2.size)
     have k23 := k22.below hb3 k22.lt
     have k03 := k02.below hb3 k02.lt
     have k13 := k12.below hb3 k12.lt
     have o3 := o2.below hb3
     have hqo3 := hqo2.below hb3
     have r3 : W3.rangeAt u2.heap.size 0 q.cells := Box.range [] q.cells [] (by simpa using b3)
     have hs3' := b3.lt
     clear hs3 hb3 hW3 b3 k02 k12 o2 hqo2
     refine hK.out _ _ (HSS.out _ hn3 k03) (fun hHeld => ?_)
     clear hK K
     try simp only [Act.put, zA, zB, zC, zD, zE, zF]
     have hll : ts.length + 1 ≤ 68719476736 := by have := HL.out; omega
     refine wpAnyH_ready (rs := [9]) (by kernel_rfl) (by simp) ?_
     refine AllReadyH.cons rfl (fun K hK => ?_) AllReadyH.nil
     refine step_append_seat rfl (.tmp 16) (.tmp 23) rfl W.heap.size wr.heap.size a' c' ts rfl o3 u2.heap.size 0 1 q rfl r3 wr.heap.size u2.heap.size hqo3 (Nat.le_refl _) (by omega) hll hsz ?_
     intro a9 c9 w9 o9 g9 _
     have HCM := HS.out q hq.out
     obtain ⟨ys, hys⟩ : ∃ ys, Hid (ts ++ [q] = ys) := ⟨_, rfl⟩
     rw [hys.out] at o9 HCM ⊢
     have hw9 : Within W.heap.size wr.heap.size W3 w9 := Within.of_grown g9 (fun j hj => ⟨(o3.row.lt j hj).1, o3.blk j hj⟩)
     have hs9 := hw9.size
     have hn9 : Below w.heap.size w w9 := hn3.trans (hw9.below (by omega) (by omega))
     have k29 := k23.within hw9 (by omega)
     have k09 := k03.within hw9 (by omega)
     have k19 := k13.within hw9 (by omega)
     refine hK.out _ _ (HSS.out _ hn9 k09) (fun hHeld => ?_)
     clear hK K hw9 g9 o3 r3 hqo3 k23 k03 k13
     try simp only [Act.put, zA, zB, zC, zD, zE, zF]
     refine tk 10 (v := .pointer (some ⟨w.heap.size + 1 + 1, 0, none⟩)) rfl (Or.inl ⟨by rfl, ?_⟩) hHeld ?_
     ·intro w' hSw
      go_simp <;> rfl
     try simp only [Act.put, zA, zB, zC, zD, zE, zF]
     have m0 := k29.cell 0 _ rfl
     have mf0 := k29.frozen 0
     obtain ⟨WF, hWF, kF, hwF, hsF⟩ := box_set k29 0 (.slice a9 ys.length c9)
     simp only [List.set] at kF
     have hsFa := Nat.le_of_eq hsF
     have hsFb := Nat.le_of_eq hsF.symm
     clear hsF
     have k0F := k09.within hwF (by omega)
     have k1F := k19.within hwF (by omega)
     have oF := (o9.within hwF (.inr (by omega))).widen (Nat.le_refl _) hsFb (Nat.le_refl _)
     have hnF : Below w.heap.size w WF := hn9.trans (hwF.below (by omega) (by omega))
     clear hwF k29 k09 k19 o9
     refine wpAnyH_ready (rs := [11]) (by kernel_rfl) (by simp) ?_
     refine AllReadyH.cons rfl (fun K hK => ?_) AllReadyH.nil
     go_simp
     rw [hWF.out]
     refine hK.out _ _ (HSS.out _ hnF k0F) (fun hHeld => ?_)
     clear hK K
     try simp only [Act.put, zA, zB, zC, zD, zE, zF]
     refine wpAnyH_done (by kernel_rfl) ?_ _
     clear m0 mf0 hWF
     go_wp2_with fail
     go_roundw
     case rel => exact ⟨k + 1, ys, a9, c9, by omega, by go_num, HCM, kF, k0F, k1F, oF, hnF, by omega⟩
     case measure => simp [intOf]; omega
    ·go_simp
     simp only [cellsSt_len, lit_seat, not_true_eq_false, Nat.lt_irrefl, or_self, if_false]
     go_simp
     obtain ⟨W3, hW3, b3, hb3, hs3⟩ := boxes1 u2 q.cells 149
     rw [hW3.out]
     have hn3 : Below w.heap.size w W3 := hn2.trans (hb3.mono hn2.size)
     have k23 := k22.below hb3 k22.lt
     have k03 := k02.below hb3 k02.lt
     have k13 := k12.below hb3 k12.lt
     have o3 := o2.below hb3
     have hqo3 := hqo2.below hb3
     have r3 : W3.rangeAt u2.heap.size 0 q.cells := Box.range [] q.cells [] (by simpa using b3)
     have hs3' := b3.lt
     clear hs3 hb3 hW3 b3 k02 k12 o2 hqo2
     refine hK.out _ _ (HSS.out _ hn3 k03) (fun hHeld => ?_)
     clear hK K
     try simp only [Act.put, zA, zB, zC, zD, zE, zF]
     have d0 := k23.cell 0 _ rfl
     refine wpAnyH_ready (rs := [1]) (by kernel_rfl) (by simp) ?_
     refine AllReadyH.cons rfl (fun K hK => ?_) AllReadyH.nil
     go_simp
     refine hK.out _ _ (hHeld) (fun hHeld => ?_)
     clear hK K
     try simp only [Act.put, zA, zB, zC, zD, zE, zF]
     have hll : ts.length + 1 ≤ 68719476736 := by have := HL.out; omega
     refine wpAnyH_ready (rs := [9]) (by kernel_rfl) (by simp) ?_
     refine AllReadyH.cons rfl (fun K hK => ?_) AllReadyH.nil
     refine step_append_seat rfl (.tmp 16) (.tmp 23) rfl W.heap.size wr.heap.size a' c' ts rfl o3 u2.heap.size 0 1 q rfl r3 wr.heap.size u2.heap.size hqo3 (Nat.le_refl _) (by omega) hll hsz ?_
     intro a9 c9 w9 o9 g9 _
     have HCM := HS.out q hq.out
     obtain ⟨ys, hys⟩ : ∃ ys, Hid (ts ++ [q] = ys) := ⟨_, rfl⟩
     rw [hys.out] at o9 HCM ⊢
     have hw9 : Within W.heap.size wr.heap.size W3 w9 := Within.of_grown g9 (fun j hj => ⟨(o3.row.lt j hj).1, o3.blk j hj⟩)
     have hs9 := hw9.size
     have hn9 : Below w.heap.size w w9 := hn3.trans (hw9.below (by omega) (by omega))
     have k29 := k23.within hw9 (by omega)
     have k09 := k03.within hw9 (by omega)
     have k19 := k13.within hw9 (by omega)
     refine hK.out _ _ (HSS.out _ hn9 k09) (fun hHeld => ?_)
     clear hK K hw9 g9 o3 r3 hqo3 k23 k03 k13
     try simp only [Act.put, zA, zB, zC, zD, zE, zF]
     refine tk 10 (v := .pointer (some ⟨w.heap.size + 1 + 1, 0, none⟩)) rfl (Or.inl ⟨by rfl, ?_⟩) hHeld ?_
     ·intro w' hSw
      go_simp <;> rfl
     try simp only [Act.put, zA, zB, zC, zD, zE, zF]
     have m0 := k29.cell 0 _ rfl
     have mf0 := k29.frozen 0
     obtain ⟨WF, hWF, kF, hwF, hsF⟩ := box_set k29 0 (.slice a9 ys.length c9)
     simp only [List.set] at kF
     have hsFa := Nat.le_of_eq hsF
     have hsFb := Nat.le_of_eq hsF.symm
     clear hsF
     have k0F := k09.within hwF (by omega)
     have k1F := k19.within hwF (by omega)
     have oF := (o9.within hwF (.inr (by omega))).widen (Nat.le_refl _) hsFb (Nat.le_refl _)
     have hnF : Below w.heap.size w WF := hn9.trans (hwF.below (by omega) (by omega))
     clear hwF k29 k09 k19 o9
     refine wpAnyH_ready (rs := [11]) (by kernel_rfl) (by simp) ?_
     refine AllReadyH.cons rfl (fun K hK => ?_) AllReadyH.nil
     go_simp
     rw [hWF.out]
     refine hK.out _ _ (HSS.out _ hnF k0F) (fun hHeld => ?_)
     clear hK K
     try simp only [Act.put, zA, zB, zC, zD, zE, zF]
     refine wpAnyH_done (by kernel_rfl) ?_ _
     clear m0 mf0 hWF
     go_wp2_with fail
     go_roundw
     case rel => exact ⟨k + 1, ys, a9, c9, by omega, by go_num, HCM, kF, k0F, k1F, oF, hnF, by omega⟩
     case measure => simp [intOf]; omega
  ·have HE : Hid (ts.map SeatA.v = rs.map SeatA.v) := by
    have e : k = rs.length := by omega
    rw [e] at hc
    exact hc.out.all
   have e0 := k2.cell 0 _ rfl
   have e1 := k2.cell 1 _ rfl
   have m0 := k1.cell 0 _ rfl
   have m1 := k1.cell 1 _ rfl
   have mf0 := k1.frozen 0
   have mf1 := k1.frozen 1
   obtain ⟨WF, hWF, bF, hwF, hsF⟩ := box2_fill k1 (.slice a' ts.length c') (.int .i64 s)
   have q0 := bF.cell 0 _ rfl
   have q1 := bF.cell 1 _ rfl
   have hoF := (hown.within hwF (.inr (by omega))).widen (show w.heap.size ≤ W.heap.size by omega) (show wr.heap.size ≤ WF.heap.size by omega) (Nat.le_refl _)
   have hbF : Below w.heap.size w WF := hnx.trans (hwF.below (by omega) (by have := hnx.size; omega))
   clear hwF hsF bF
   go_wp2
   rw [hWF.out]
   exact bodyPost_ret (v := .agg #[.slice a' ts.length c', .int .i64 s]) (by simp [results, Tryz.results69, go_sem, q0, q1]) rfl ⟨⟨ts, s, a', c'⟩, rfl, by simp only [Hid, PoolA.v]; rw [HE.out], hoF, hbF⟩
end Go.Proofs.YtpgeemdjghkjiabGreatDoor
namespace Go.Proofs.YtpgeemdjghkjiabGreatDoor
open Go.RowKit
attribute [local go_sem ↓] Go.wp_at_zero Go.wp_at_succ
structure Brought (lo B o : Nat) (vs : List Value) (t : TypeId) (a : Option Addr) (c : Nat) (ss : List SeatA) (w w' : World) (ts : List SeatA) (a' : Option Addr) (c' hand' : Nat) (old : SeatA) : Prop where
 pool : PoolAt w' lo w'.heap.size B o ((vs.set o (.slice a' ts.length c')).set (o + 1) (.int .i64 hand')) t a' c' ts hand'
 fresh : ∀ k ∈ blocksSts a' c' ts, k ∈ blocksSts a c ss ∨ w.heap.size ≤ k
 touch : Touch (B :: blocksSts a c ss) w w'
 went : old.own w' lo w'.heap.size
 wentB : ∀ k ∈ old.blocks, k ∈ blocksSts a c ss
end Go.Proofs.YtpgeemdjghkjiabGreatDoor
namespace Go.Proofs.YtpgeemdjghkjiabGreatDoor
open Go.RowKit
attribute [local go_sem ↓] Go.wp_at_zero Go.wp_at_succ
theorem EngA.cells_set {e : EngA} (h : e.shape) (j : Nat) (v : Value) : e.cells.set (136 + j) v = cellsPs e.disk ++ e.tail.set j v := by
 rw [EngA.cells, List.set_append_right _ _ (by rw [EngA.disk_len h]; omega), EngA.disk_len h, show 136 + j - 136 = j by omega]
end Go.Proofs.YtpgeemdjghkjiabGreatDoor
namespace Go.Proofs.YtpgeemdjghkjiabGreatDoor
open Go.RowKit
attribute [local go_sem ↓] Go.wp_at_zero Go.wp_at_succ
theorem EngA.cells_pool {e : EngA} (h : e.shape) (ss : List SeatA) (a : Option Addr) (c : Nat) (hand : Int) : (e.cells.set 136 (.slice a ss.length c)).set 137 (.int .i64 hand) = (e.withPool ss a c hand).cells := by
 have h1 : e.cells.set 136 (.slice a ss.length c) = cellsPs e.disk ++ e.tail.set 0 (.slice a ss.length c) := EngA.cells_set h 0 _
 rw [h1, List.set_append_right _ _ (by rw [EngA.disk_len h]; omega), EngA.disk_len h]
 rfl
theorem Brought.step {w w' : World} {E : Nat} {e : EngA} {ts : List SeatA} {a' : Option Addr} {c' hand' : Nat} {old : SeatA} (h : EngAt w E e) (b : Brought 0 E 136 e.cells TE e.aS e.cS e.seats w w' ts a' c' hand' old) : EngStep E e w (e.withPool ts a' c' hand') w' := by
 refine h.pool ts a' c' hand' ?_ b.pool.own b.touch b.fresh
 have := b.pool.box
 rw [EngA.cells_pool h.shape] at this
 exact this
theorem EngStep.put {E X : Nat} {e e' : EngA} {w w' w'' : World} (s : EngStep E e w e' w') (hw : Within X (X + 1) w' w'') (ho : Off E e' X) (hX : w.heap.size ≤ X) : EngStep E e w e' w'' :=
 ⟨s.at'.within hw (fun h => ho.1 (by omega)) (fun k hk h => ho.2 (by have : k = X := (by omega); rw [← this]; exact hk)),
  ⟨hw.os.trans s.touch.os, hw.tape.trans s.touch.tape, hw.output.trans s.touch.output, Nat.le_trans s.size hw.size, fun k hk hn => (hw.block k (Nat.lt_of_lt_of_le hk s.size) (by omega)).trans (s.touch.block k hk hn)⟩, s.fresh⟩
end Go.Proofs.YtpgeemdjghkjiabGreatDoor
namespace Go.Proofs.YtpgeemdjghkjiabGreatDoor
open Go.RowKit
end Go.Proofs.YtpgeemdjghkjiabGreatDoor
namespace Go.Proofs.YtpgeemdjghkjiabGreatDoor
open Go.RowKit
attribute [local go_sem ↓] Go.wp_at_zero Go.wp_at_succ
structure EngMore (E : Nat) (e : EngA) (Q : List Nat) (w : World) (e' : EngA) (w' : World) : Prop where
 at' : EngAt w' E e'
 touch : Touch (E :: (e.blocks ++ Q)) w w'
 fresh : ∀ k ∈ e'.blocks, k ∈ e.blocks ∨ k ∈ Q ∨ w.heap.size ≤ k
theorem EngMore.then {E : Nat} {Q : List Nat} {e e1 e2 : EngA} {w w1 w2 : World} (m : EngMore E e Q w e1 w1) (s : EngStep E e1 w1 e2 w2) : EngMore E e Q w e2 w2 := by
 refine ⟨s.at', ⟨s.touch.os.trans m.touch.os, s.touch.tape.trans m.touch.tape, s.touch.output.trans m.touch.output, Nat.le_trans m.touch.size s.size, fun k hk hn => ?_⟩, fun k hk => ?_⟩
 ·have hn1 : k ∉ E :: e1.blocks := fun h => by
   rcases List.mem_cons.1 h with h | h
   ·exact hn (by simp [h])
   ·rcases m.fresh k h with h | h | h
    ·exact hn (List.mem_cons_of_mem _ (List.mem_append.2 (.inl h)))
    ·exact hn (List.mem_cons_of_mem _ (List.mem_append.2 (.inr h)))
    ·omega
  exact (s.touch.block k (Nat.lt_of_lt_of_le hk m.touch.size) hn1).trans (m.touch.block k hk hn)
 ·rcases s.fresh k hk with h | h
  ·exact m.fresh k h
  ·exact .inr (.inr (Nat.le_trans m.touch.size h))
theorem EngMore.step {E : Nat} {Q : List Nat} {e0 e e' : EngA} {w0 w w' : World} (s : EngStep E e0 w0 e w) (m : EngMore E e Q w e' w') (hQ : ∀ k ∈ Q, w0.heap.size ≤ k) : EngStep E e0 w0 e' w' := by
 refine ⟨m.at', ⟨m.touch.os.trans s.touch.os, m.touch.tape.trans s.touch.tape, m.touch.output.trans s.touch.output, Nat.le_trans s.size m.touch.size, fun k hk hn => ?_⟩, fun k hk => ?_⟩
 ·have hn1 : k ∉ E :: (e.blocks ++ Q) := fun h => by
   rcases List.mem_cons.1 h with h | h
   ·exact hn (by simp [h])
   ·rcases List.mem_append.1 h with h | h
    ·rcases s.fresh k h with h | h
     ·exact hn (List.mem_cons_of_mem _ h)
     ·omega
    ·have := hQ k h; omega
  exact (m.touch.block k (Nat.lt_of_lt_of_le hk s.size) hn1).trans (s.touch.block k hk hn)
 ·rcases m.fresh k hk with h | h | h
  ·exact s.fresh k h
  ·exact .inr (hQ k h)
  ·exact .inr (Nat.le_trans s.size h)
theorem EngMore.off {E B : Nat} {Q : List Nat} {e e' : EngA} {w w' : World} (m : EngMore E e Q w e' w') (hB : B < w.heap.size) (ho : Off E e B) (hQ : B ∉ Q) : Off E e' B :=
 ⟨ho.1, fun hk => (m.fresh B hk).elim ho.2 (fun h => h.elim hQ (fun h => by omega))⟩
end Go.Proofs.YtpgeemdjghkjiabGreatDoor
namespace Go.Proofs.YtpgeemdjghkjiabGreatDoor
open Go.RowKit
attribute [local go_sem ↓] Go.wp_at_zero Go.wp_at_succ
end Go.Proofs.YtpgeemdjghkjiabGreatDoor
namespace Go.Proofs.YtpgeemdjghkjiabGreatDoor
open Go.RowKit
attribute [local go_sem ↓] Go.wp_at_zero Go.wp_at_succ
end Go.Proofs.YtpgeemdjghkjiabGreatDoor
namespace Go.Proofs.YtpgeemdjghkjiabGreatDoor
open Go.RowKit
theorem ownL_lit0 (w : World) : OwnL (w.alloc (.cells #[] 121)) w.heap.size (w.heap.size + 1) (some ⟨w.heap.size, 0, none⟩) 0 [] :=
 ⟨World.ownsRow_lit w #[] 0 (Nat.le_refl _) (by simp [maxLen]) rfl, by simp, fun k hk => by cases hk; simp⟩
theorem ownH_lit0 (w : World) : OwnH (w.alloc (.cells #[] 129)) w.heap.size (w.heap.size + 1) (some ⟨w.heap.size, 0, none⟩) 0 [] :=
 ⟨World.ownsRow_lit w #[] 0 (Nat.le_refl _) (by simp [maxLen]) rfl, by simp, fun k hk => by cases hk; simp⟩
theorem l3SameSlot_any (s t : SlotA) (w : World) (hs : s.reads w) (ht : t.reads w) (hls : Fit [s]) (hlt : Fit [t]) :
  Calls Tryz.prog 154 #[.agg s.cells.toArray, .agg t.cells.toArray] w fun e w' => e = .returned (.bool (sameS s.v t.v)) ∧ Below w.heap.size w w' := by
 obtain ⟨h1, h2⟩ := hls s (List.mem_singleton.2 rfl)
 obtain ⟨h3, h4⟩ := hlt t (List.mem_singleton.2 rfl)
 obtain ⟨W, hW, b0, b1, hbW, hsW⟩ := boxes2 w s.cells t.cells 44 44
 have C1 := specSameObj_any s.v.o t.v.o s.aI s.cI s.aR s.cR t.aI t.cI t.aR t.cR W (ReadsO.below hs hbW) (ReadsO.below ht hbW) h1 h2 h3 h4
 have HZ : Hid (sameS s.v t.v = ((s.v.has == t.v.has) && sameO s.v.o t.v.o)) := rfl
 generalize sameS s.v t.v = R at *
 simp only [SlotA.cells] at *
 obtain ⟨x0, x1, x2, x3, _⟩ := b0.four
 obtain ⟨y0, y1, y2, y3, _⟩ := b1.four
 clear hsW b0 b1
 cases hb : (s.v.has == t.v.has) with
 | false =>
  have HR : Hid (R = false) := by rw [Hid, HZ.out]; simp [hb]
  clear HZ C1
  go_enter Tryz.func154, Tryz.ntmps154
  go_wp2
  go_ret
  exact ⟨ret_bool HR.out.symm, by rw [hW.out]; exact hbW⟩
 | true =>
  have HR : Hid (R = sameO s.v.o t.v.o) := by rw [Hid, HZ.out]; simp [hb]
  clear HZ
  go_enter Tryz.func154, Tryz.ntmps154
  go_wp2_with fail
  rw [hW.out]
  refine C1.mono ?_
  clear C1 x0 x1 x2 x3 y0 y1 y2 y3
  rintro e w1 ⟨rfl, hb1⟩
  go_wp2
  go_ret
  exact ⟨ret_bool HR.out.symm, hbW.trans (hb1.mono hbW.size)⟩
def sameSs (a b : List SlotV) : Bool := (List.range 4).all fun i => sameS (a.getD i zeroS.v) (b.getD i zeroS.v)
def samePg (a b : Int × List SlotV) : Bool := sameSs a.2 b.2 && decide (a.1 = b.1)
theorem samePg_no {a b : Int × List SlotV} (i : Nat) (hi : i < 4) (h : sameS (a.2.getD i zeroS.v) (b.2.getD i zeroS.v) = false) : samePg a b = false := by
 have : sameSs a.2 b.2 = false := by
  rw [sameSs, List.all_eq_false]
  exact ⟨i, List.mem_range.2 hi, by rw [h]; decide⟩
 rw [samePg, this, Bool.false_and]
theorem samePg_all {a b : Int × List SlotV} (h : ∀ i, i < 4 → sameS (a.2.getD i zeroS.v) (b.2.getD i zeroS.v) = true) : samePg a b = decide (a.1 = b.1) := by
 have : sameSs a.2 b.2 = true := by
  rw [sameSs, List.all_eq_true]
  exact fun i hi => h i (List.mem_range.1 hi)
 rw [samePg, this, Bool.true_and]
theorem slotV_at (ss : List SlotA) (k : Nat) : (ss.map (·.v)).getD k zeroS.v = (ss.getD k zeroS).v := by
 simp only [List.getD, List.getElem?_map]
 cases ss[k]? <;> rfl
theorem slot_infoE (s : SlotA) : (Tryz.prog.info? 44).map (·.size) = some s.cells.length := by show _ = some 4; kernel_rfl
theorem oneSlE (s : SlotA) : ∀ v ∈ s.cells, v.oneCell' = true := by
 intro v hv
 simp only [SlotA.cells, List.mem_cons, List.not_mem_nil, or_false] at hv
 rcases hv with rfl | rfl | rfl | rfl <;> rfl
theorem slot_rng {w : World} {B : Nat} {t : TypeId} {n : Int} {ss : List SlotA} (b : Box w B (PageA.cells ⟨n, ss⟩) t) (k : Nat) (hk : k < ss.length) : w.rangeAt B (1 + k * 4) (ss.getD k zeroS).cells := by
 intro j v hv
 have hj : j < 4 := (List.getElem?_eq_some_iff.1 hv).1
 have e := cellsS_at ss k j hk hj
 refine b.cell (1 + k * 4 + j) v ?_
 show (Value.int .i64 n :: cellsS ss)[1 + k * 4 + j]? = some v
 rw [show 1 + k * 4 + j = (k * 4 + j) + 1 by omega, List.getElem?_cons_succ, e]
 exact hv
theorem l7SamePage_any (p q : PageA) (hp : p.ss.length = 4) (hq : q.ss.length = 4) (w : World) (rp : ReadsS w p.ss) (rq : ReadsS w q.ss) (fp : Fit p.ss) (fq : Fit q.ss) :
  Calls Tryz.prog 101 #[.agg p.cells.toArray, .agg q.cells.toArray] w fun e w' => e = .returned (.bool (samePg (p.lsn, p.ss.map (·.v)) (q.lsn, q.ss.map (·.v)))) ∧ Below w.heap.size w w' := by
 have HNO : Hid (∀ i, i < 4 → sameS (p.ss.getD i zeroS).v (q.ss.getD i zeroS).v = false → samePg (p.lsn, p.ss.map (·.v)) (q.lsn, q.ss.map (·.v)) = false) := fun i hi h => samePg_no i hi (by rw [slotV_at, slotV_at]; exact h)
 have HALL : Hid ((∀ i, i < 4 → sameS (p.ss.getD i zeroS).v (q.ss.getD i zeroS).v = true) → samePg (p.lsn, p.ss.map (·.v)) (q.lsn, q.ss.map (·.v)) = decide (p.lsn = q.lsn)) := fun h => samePg_all (fun i hi => by rw [slotV_at, slotV_at]; exact h i hi)
 generalize samePg (p.lsn, p.ss.map (·.v)) (q.lsn, q.ss.map (·.v)) = RR at *
 obtain ⟨n, ss⟩ := p
 obtain ⟨m, ts⟩ := q
 simp only at *
 obtain ⟨W, hW, b0, b1, hbW, hsW⟩ := boxes2 w (PageA.cells ⟨n, ss⟩) (PageA.cells ⟨m, ts⟩) 47 47
 have HB : Hid (∀ u, Below W.heap.size W u → Box u w.heap.size (PageA.cells ⟨n, ss⟩) 47 ∧ Box u (w.heap.size + 1) (PageA.cells ⟨m, ts⟩) 47) := fun u hu => ⟨b0.below hu b0.lt, b1.below hu b1.lt⟩
 clear hsW b0 b1
 go_enter Tryz.func101, Tryz.ntmps101
 go_wp2_with fail
 rw [hW.out]
 clear hW
 go_loopw [5] (fun i wr => ∃ k : Nat, k ≤ 4 ∧ i = .int .i64 (k : Int) ∧ Hid (∀ i, i < k → sameS (ss.getD i zeroS).v (ts.getD i zeroS).v = true) ∧ Below W.heap.size W wr) (fun i _ => 4 - (intOf i).toNat)
 case atStart => exact ⟨0, Nat.zero_le _, rfl, fun i hi => by omega, Below.refl _ _⟩
 case round =>
  obtain ⟨k, hk, rfl, hall, hbr⟩ := hrel
  by_cases hlt : k < 4
  ·have HR : Hid (∀ u, Below W.heap.size W u → u.rangeAt w.heap.size (1 + k * 4) (ss.getD k zeroS).cells ∧ u.rangeAt (w.heap.size + 1) (1 + k * 4) (ts.getD k zeroS).cells) := fun u hu => ⟨slot_rng (HB.out u hu).1 k (by omega), slot_rng (HB.out u hu).2 k (by omega)⟩
   have R1 := rp _ (getD_mem (k := k) (by omega : k < ss.length))
   have R2 := rq _ (getD_mem (k := k) (by omega : k < ts.length))
   have F1 := fp _ (getD_mem (k := k) (by omega : k < ss.length))
   have F2 := fq _ (getD_mem (k := k) (by omega : k < ts.length))
   have HNK := HNO.out k hlt
   have HK : Hid (∀ b, sameS (ss.getD k zeroS).v (ts.getD k zeroS).v = b → b = true → ∀ i, i < k + 1 → sameS (ss.getD i zeroS).v (ts.getD i zeroS).v = true) := fun b hb hb2 i hi => by
    by_cases e : i = k
    ·rw [e, hb]; exact hb2
    ·exact hall.out i (by omega)
   have HNK' : Hid (_) := HNK
   clear HNK
   generalize ss.getD k zeroS = s at *
   generalize ts.getD k zeroS = t at *
   have hi0 : (0 : Int) ≤ (k : Int) := by omega
   have hi4 : (k : Int) < 4 := by omega
   go_wp2_with fail
   have D0 : Below W.heap.size W wr.drew := hbr.trans ((Below.refl _ _).drew.mono hbr.size)
   refine wp_region_held_drew (S := fun u => u.rangeAt w.heap.size (1 + k * 4) s.cells ∧ u.rangeAt (w.heap.size + 1) (1 + k * 4) t.cells) (by kernel_rfl) (HR.out _ D0) (fun hHeld => ?_)
   generalize wr.drew = d0 at *
   refine tk 0 (v := .int .i64 (k : Int)) rfl (Or.inl ⟨by rfl, ?_⟩) hHeld ?_
   ·intro w' hSw
    go_simp <;> rfl
   try simp only [Act.put, zA, zB, zD, zE, zF]
   refine tk 1 (v := .pointer (some ⟨w.heap.size, 1, none⟩)) rfl (Or.inl ⟨by rfl, ?_⟩) hHeld ?_
   ·intro w' hSw
    go_simp <;> rfl
   try simp only [Act.put, zA, zB, zC, zD, zE, zF]
   refine tk 2 (v := .pointer (some ⟨w.heap.size, 1 + k * 4, none⟩)) rfl (Or.inl ⟨by rfl, ?_⟩) hHeld ?_
   ·intro w' hSw
    go_simp <;> rfl
   try simp only [Act.put, zA, zB, zC, zD, zE, zF]
   refine tk 3 rfl (yieldsIf_load_mid (by rfl) _ _ rfl _ _ rfl (s.cells) _ (fun _ h => h.1) Tryz.underlying44 rfl (slot_infoE _)) hHeld ?_
   try simp only [Act.put, zA, zB, zC, zD, zE, zF]
   refine tk 4 (v := .int .i64 (k : Int)) rfl (Or.inl ⟨by rfl, ?_⟩) hHeld ?_
   ·intro w' hSw
    go_simp <;> rfl
   try simp only [Act.put, zA, zB, zC, zD, zE, zF]
   refine tk 5 (v := .pointer (some ⟨w.heap.size + 1, 1, none⟩)) rfl (Or.inl ⟨by rfl, ?_⟩) hHeld ?_
   ·intro w' hSw
    go_simp <;> rfl
   try simp only [Act.put, zA, zB, zC, zD, zE, zF]
   refine tk 6 (v := .pointer (some ⟨w.heap.size + 1, 1 + k * 4, none⟩)) rfl (Or.inl ⟨by rfl, ?_⟩) hHeld ?_
   ·intro w' hSw
    go_simp <;> rfl
   try simp only [Act.put, zA, zB, zC, zD, zE, zF]
   refine tk 7 rfl (yieldsIf_load_mid (by rfl) _ _ rfl _ _ rfl (t.cells) _ (fun _ h => h.2) Tryz.underlying44 rfl (slot_infoE _)) hHeld ?_
   try simp only [Act.put, zA, zB, zC, zD, zE, zF]
   refine wpAnyH_ready (rs := [8]) (by kernel_rfl) (by simp) ?_
   refine AllReadyH.cons rfl (fun K hK => ?_) AllReadyH.nil
   go_simp
   refine (l3SameSlot_any s t _ (ReadsO.below R1 (hbW.trans (D0.mono hbW.size))) (ReadsO.below R2 (hbW.trans (D0.mono hbW.size))) (fun x hx => by obtain rfl := List.mem_singleton.1 hx; exact F1) (fun x hx => by obtain rfl := List.mem_singleton.1 hx; exact F2)).mono ?_
   rintro e d1 ⟨rfl, hb1⟩
   have D1 : Below W.heap.size W d1 := D0.trans (hb1.mono D0.size)
   refine hK.out _ _ (HR.out _ D1) (fun hHeld => ?_)
   clear hK K hb1
   try simp only [Act.put, zA, zB, zC, zD, zE, zF]
   obtain ⟨bb, hsm⟩ : ∃ bb, Hid (sameS s.v t.v = bb) := ⟨_, rfl⟩
   rw [hsm.out]
   cases bb with
   | true =>
    refine tk 9 (v := .bool false) rfl (Or.inl ⟨by rfl, ?_⟩) hHeld ?_
    ·intro w' hSw
     go_simp <;> rfl
    try simp only [Act.put, zA, zB, zC, zD, zE, zF]
    refine wpAnyH_done (by kernel_rfl) ?_ _
    clear hHeld
    go_wp2_with fail
    go_roundw
    case rel => exact ⟨k + 1, by omega, by go_num, HK.out _ hsm.out rfl, D1⟩
    case measure => simp [intOf]; omega
   | false =>
    refine tk 9 (v := .bool true) rfl (Or.inl ⟨by rfl, ?_⟩) hHeld ?_
    ·intro w' hSw
     go_simp <;> rfl
    try simp only [Act.put, zA, zB, zC, zD, zE, zF]
    refine wpAnyH_done (by kernel_rfl) ?_ _
    clear hHeld
    have HE : Hid (RR = false ∧ Below w.heap.size w d1) := ⟨HNK'.out hsm.out, hbW.trans (D1.mono hbW.size)⟩
    go_wp2
    go_ret
    exact ⟨ret_bool HE.out.1.symm, HE.out.2⟩
  ·obtain rfl : k = 4 := by omega
   have hkk : ¬ ((4 : Nat) : Int) < 4 := by omega
   have HE : Hid (RR = decide (n = m) ∧ Below w.heap.size w wr) := ⟨HALL.out hall.out, hbW.trans (hbr.mono hbW.size)⟩
   have x0 := (HB.out _ hbr).1.cell 0 _ rfl
   have y0 := (HB.out _ hbr).2.cell 0 _ rfl
   by_cases hnm : n = m
   ·subst hnm
    go_wp2
    go_ret
    exact ⟨ret_bool (by rw [HE.out.1]; simp), HE.out.2⟩
   ·have hne : (n == m) = false := by simpa using hnm
    go_wp2
    go_ret
    exact ⟨ret_bool (by rw [HE.out.1]; simp [hnm]), HE.out.2⟩
theorem implSamePage_any (p q : PageA) (hp : p.ss.length = 4) (hq : q.ss.length = 4) (w : World) (rp : ReadsS w p.ss) (rq : ReadsS w q.ss) (fp : Fit p.ss) (fq : Fit q.ss) :
  Calls Tryz.prog 158 #[.agg p.cells.toArray, .agg q.cells.toArray] w fun e w' => e = .returned (.bool (samePg (p.lsn, p.ss.map (·.v)) (q.lsn, q.ss.map (·.v)))) ∧ Below w.heap.size w w' := by
 have HNO : Hid (∀ i, i < 4 → sameS (p.ss.getD i zeroS).v (q.ss.getD i zeroS).v = false → samePg (p.lsn, p.ss.map (·.v)) (q.lsn, q.ss.map (·.v)) = false) := fun i hi h => samePg_no i hi (by rw [slotV_at, slotV_at]; exact h)
 have HALL : Hid ((∀ i, i < 4 → sameS (p.ss.getD i zeroS).v (q.ss.getD i zeroS).v = true) → samePg (p.lsn, p.ss.map (·.v)) (q.lsn, q.ss.map (·.v)) = decide (p.lsn = q.lsn)) := fun h => samePg_all (fun i hi => by rw [slotV_at, slotV_at]; exact h i hi)
 generalize samePg (p.lsn, p.ss.map (·.v)) (q.lsn, q.ss.map (·.v)) = RR at *
 obtain ⟨n, ss⟩ := p
 obtain ⟨m, ts⟩ := q
 simp only at *
 obtain ⟨W, hW, b0, b1, hbW, hsW⟩ := boxes2 w (PageA.cells ⟨n, ss⟩) (PageA.cells ⟨m, ts⟩) 47 47
 have HB : Hid (∀ u, Below W.heap.size W u → Box u w.heap.size (PageA.cells ⟨n, ss⟩) 47 ∧ Box u (w.heap.size + 1) (PageA.cells ⟨m, ts⟩) 47) := fun u hu => ⟨b0.below hu b0.lt, b1.below hu b1.lt⟩
 clear hsW b0 b1
 have hrg0 : W.rangeAt w.heap.size 1 (cellsS ss) := Box.range [.int .i64 n] (cellsS ss) [] (by rw [List.append_nil]; exact (HB.out _ (Below.refl _ _)).1)
 have hi16 : (Tryz.prog.info? 45).map (·.size) = some (cellsS ss).length := by rw [cellsS_len, hp]; kernel_rfl
 go_enter Tryz.func158, Tryz.ntmps158
 go_wp2_with (first | (guard_target = wpList _ _ _ (Oper.mk (some 8) _ _ _ _ _ :: _) _ _; refine wpList_load_mid rfl 45 (.tmp 7) rfl w.heap.size 1 rfl (cellsS ss) _ (by rw [hW.out]; exact hrg0) Tryz.underlying45 rfl hi16 ?_) | fail)
 rw [hW.out]
 clear hW hrg0 hi16
 go_loopw [9] (fun i wr => ∃ k : Nat, k ≤ 4 ∧ i = .int .i64 (k : Int) ∧ Hid (∀ i, i < k → sameS (ss.getD i zeroS).v (ts.getD i zeroS).v = true) ∧ Below W.heap.size W wr) (fun i _ => 4 - (intOf i).toNat)
 case atStart => exact ⟨0, Nat.zero_le _, rfl, fun i hi => by omega, Below.refl _ _⟩
 case round =>
  obtain ⟨k, hk, rfl, hall, hbr⟩ := hrel
  by_cases hlt : k < 4
  ·have HR1 : Hid (∀ u, Below W.heap.size W u → u.rangeAt (w.heap.size + 1) (1 + k * 4) (ts.getD k zeroS).cells) := fun u hu => slot_rng (HB.out u hu).2 k (by omega)
   have R1 := rp _ (getD_mem (k := k) (by omega : k < ss.length))
   have R2 := rq _ (getD_mem (k := k) (by omega : k < ts.length))
   have F1 := fp _ (getD_mem (k := k) (by omega : k < ss.length))
   have F2 := fq _ (getD_mem (k := k) (by omega : k < ts.length))
   have HNK := HNO.out k hlt
   have HK : Hid (∀ b, sameS (ss.getD k zeroS).v (ts.getD k zeroS).v = b → b = true → ∀ i, i < k + 1 → sameS (ss.getD i zeroS).v (ts.getD i zeroS).v = true) := fun b hb hb2 i hi => by
    by_cases e : i = k
    ·rw [e, hb]; exact hb2
    ·exact hall.out i (by omega)
   have HNK' : Hid (_) := HNK
   have hix := run_index_slot ss hp k hlt
   clear HNK
   generalize ss.getD k zeroS = s at *
   generalize ts.getD k zeroS = t at *
   have hi0 : (0 : Int) ≤ (k : Int) := by omega
   have hi4 : (k : Int) < 4 := by omega
   obtain ⟨ZV, hZV, bZ, hbZ, hsZ⟩ := boxes1 wr [.bool false, .int .i64 0, .slice none 0 0, .slice none 0 0] 44
   obtain ⟨V, hV, bS0, hwS, hsS⟩ := range_fill [] [.bool false, .int .i64 0, .slice none 0 0, .slice none 0 0] s.cells [] (by simpa using bZ) rfl
   have bS : Box V wr.heap.size s.cells 44 := by simpa using bS0
   have HT : Hid (ZV.there wr.heap.size 0 s.cells.toArray.size) := bZ.there 0 _ (by show 0 + 4 ≤ 4; decide)
   have HV : Hid (ZV.setCells wr.heap.size 0 s.cells.toArray.toList = V) := hV.out
   have nb : Below wr.heap.size wr V := hbZ.trans (hwS.below (Nat.le_refl _) (by omega))
   have D : Below W.heap.size W V := hbr.trans (nb.mono hbr.size)
   have l6 := bS.lt
   have HR : Hid (∀ u, Below V.heap.size V u → u.rangeAt wr.heap.size 0 s.cells ∧ u.rangeAt (w.heap.size + 1) (1 + k * 4) t.cells) := fun u hu => ⟨Box.range [] s.cells [] (by simpa using bS.below hu bS.lt), HR1.out u (D.trans (hu.mono D.size))⟩
   clear bZ hbZ hsZ hV bS0 hwS hsS bS
   go_upto_region 4 with (first | (guard_target = wpList _ _ _ (Oper.mk none (Op.store _ (Operand.tmp 6) _) _ _ _ _ :: _) _ _; refine wpList_store_mid rfl 44 (.tmp 6) (.tmp 12) rfl wr.heap.size 0 s.cells.toArray rfl rfl (by rw [hZV.out]; exact HT.out) (by rw [List.size_toArray]; exact slot_infoE _) (all_oneCell_toArray (oneSlE s)) ?_) | fail)
   rw [hZV.out, HV.out]
   clear hZV HV HT hix
   have D0 : Below V.heap.size V V.drew := (Below.refl _ _).drew
   refine wp_region_held_drew (S := fun u => u.rangeAt wr.heap.size 0 s.cells ∧ u.rangeAt (w.heap.size + 1) (1 + k * 4) t.cells) (by kernel_rfl) (HR.out _ D0) (fun hHeld => ?_)
   generalize V.drew = d0 at *
   refine tk 0 rfl (yieldsIf_load_mid (by rfl) _ _ rfl _ _ rfl (s.cells) _ (fun _ h => h.1) Tryz.underlying44 rfl (slot_infoE _)) hHeld ?_
   try simp only [Act.put, zA, zB, zD, zE, zF]
   refine tk 1 (v := .int .i64 (k : Int)) rfl (Or.inl ⟨by rfl, ?_⟩) hHeld ?_
   ·intro w' hSw
    go_simp <;> rfl
   try simp only [Act.put, zA, zB, zC, zD, zE, zF]
   refine tk 2 (v := .pointer (some ⟨w.heap.size + 1, 1, none⟩)) rfl (Or.inl ⟨by rfl, ?_⟩) hHeld ?_
   ·intro w' hSw
    go_simp <;> rfl
   try simp only [Act.put, zA, zB, zC, zD, zE, zF]
   refine tk 3 (v := .pointer (some ⟨w.heap.size + 1, 1 + k * 4, none⟩)) rfl (Or.inl ⟨by rfl, ?_⟩) hHeld ?_
   ·intro w' hSw
    go_simp <;> rfl
   try simp only [Act.put, zA, zB, zC, zD, zE, zF]
   refine tk 4 rfl (yieldsIf_load_mid (by rfl) _ _ rfl _ _ rfl (t.cells) _ (fun _ h => h.2) Tryz.underlying44 rfl (slot_infoE _)) hHeld ?_
   try simp only [Act.put, zA, zB, zC, zD, zE, zF]
   refine wpAnyH_ready (rs := [5]) (by kernel_rfl) (by simp) ?_
   refine AllReadyH.cons rfl (fun K hK => ?_) AllReadyH.nil
   have RB : Below w.heap.size w d0 := hbW.trans ((D.trans (D0.mono D.size)).mono hbW.size)
   go_simp
   refine (implSameSlot_any s t _ (ReadsO.below R1 RB) (ReadsO.below R2 RB) (fun x hx => by obtain rfl := List.mem_singleton.1 hx; exact F1) (fun x hx => by obtain rfl := List.mem_singleton.1 hx; exact F2)).mono ?_
   rintro e d1 ⟨rfl, hb1⟩
   have DV : Below V.heap.size V d1 := D0.trans (hb1.mono D0.size)
   have D1 : Below W.heap.size W d1 := D.trans (DV.mono D.size)
   refine hK.out _ _ (HR.out _ DV) (fun hHeld => ?_)
   clear hK K hb1
   try simp only [Act.put, zA, zB, zC, zD, zE, zF]
   obtain ⟨bb, hsm⟩ : ∃ bb, Hid (sameS s.v t.v = bb) := ⟨_, rfl⟩
   rw [hsm.out]
   cases bb with
   | true =>
    refine tk 6 (v := .bool false) rfl (Or.inl ⟨by rfl, ?_⟩) hHeld ?_
    ·intro w' hSw
     go_simp <;> rfl
    try simp only [Act.put, zA, zB, zC, zD, zE, zF]
    refine wpAnyH_done (by kernel_rfl) ?_ _
    clear hHeld
    go_wp2_with fail
    go_roundw
    case rel => exact ⟨k + 1, by omega, by go_num, HK.out _ hsm.out rfl, D1⟩
    case measure => simp [intOf]; omega
   | false =>
    refine tk 6 (v := .bool true) rfl (Or.inl ⟨by rfl, ?_⟩) hHeld ?_
    ·intro w' hSw
     go_simp <;> rfl
    try simp only [Act.put, zA, zB, zC, zD, zE, zF]
    refine wpAnyH_done (by kernel_rfl) ?_ _
    clear hHeld
    have HE : Hid (RR = false ∧ Below w.heap.size w d1) := ⟨HNK'.out hsm.out, hbW.trans (D1.mono hbW.size)⟩
    go_wp2
    go_ret
    exact ⟨ret_bool HE.out.1.symm, HE.out.2⟩
  ·obtain rfl : k = 4 := by omega
   have hkk : ¬ ((4 : Nat) : Int) < 4 := by omega
   have HE : Hid (RR = decide (n = m) ∧ Below w.heap.size w wr) := ⟨HALL.out hall.out, hbW.trans (hbr.mono hbW.size)⟩
   have x0 := (HB.out _ hbr).1.cell 0 _ rfl
   have y0 := (HB.out _ hbr).2.cell 0 _ rfl
   by_cases hnm : n = m
   ·subst hnm
    go_wp2
    go_ret
    exact ⟨ret_bool (by rw [HE.out.1]; simp), HE.out.2⟩
   ·have hne : (n == m) = false := by simpa using hnm
    go_wp2
    go_ret
    exact ⟨ret_bool (by rw [HE.out.1]; simp [hnm]), HE.out.2⟩
theorem seatFrom_at (ss : List SeatV) : ∀ (no : Int) (b k : Nat), k < ss.length → (ss.getD k zeroStV).no = no → (∀ j, j < k → (ss.getD j zeroStV).no ≠ no) → seatFrom no ss b = ((b + k : Nat) : Int) := by
 induction ss with
 | nil => intro no b k h; simp at h
 | cons s r ih =>
  intro no b k hk he hn
  rw [seatFrom]
  cases k with
  | zero => simp only [List.getD_cons_zero] at he; rw [if_pos he]; simp
  | succ k =>
   have h0 := hn 0 (by omega)
   simp only [List.getD_cons_zero] at h0
   simp only [List.getD_cons_succ] at he
   rw [if_neg h0, ih no (b + 1) k (by simpa using hk) he (fun j hj => by have := hn (j + 1) (by omega); simpa using this)]
   omega
theorem seatFrom_none (ss : List SeatV) : ∀ (no : Int) (b : Nat), (∀ j, j < ss.length → (ss.getD j zeroStV).no ≠ no) → seatFrom no ss b = -1 := by
 induction ss with
 | nil => intro no b _; rfl
 | cons s r ih =>
  intro no b hn
  have h0 := hn 0 (by simp)
  simp only [List.getD_cons_zero] at h0
  rw [seatFrom, if_neg h0, ih no (b + 1) (fun j hj => by have := hn (j + 1) (by simpa using hj); simpa using this)]
theorem seated_at {ss : List SeatV} {no : Int} {k : Nat} (hk : k < ss.length) (he : (ss.getD k zeroStV).no = no) (hn : ∀ j, j < k → (ss.getD j zeroStV).no ≠ no) : seatedOf ss no = k := by
 have := seatFrom_at ss no 0 k hk he hn
 simpa [seatedOf] using this
theorem seated_none {ss : List SeatV} {no : Int} (hn : ∀ j, j < ss.length → (ss.getD j zeroStV).no ≠ no) : seatedOf ss no = -1 := seatFrom_none ss no 0 hn
theorem seated_cases (ss : List SeatV) (no : Int) : (∃ k : Nat, k < ss.length ∧ (ss.getD k zeroStV).no = no ∧ (∀ j, j < k → (ss.getD j zeroStV).no ≠ no) ∧ seatedOf ss no = k) ∨ ((∀ j, j < ss.length → (ss.getD j zeroStV).no ≠ no) ∧ seatedOf ss no = -1) := by
 by_cases h : ∃ k, k < ss.length ∧ (ss.getD k zeroStV).no = no
 ·have hm : ∃ k, (k < ss.length ∧ (ss.getD k zeroStV).no = no) ∧ ∀ j, j < k → ¬ (j < ss.length ∧ (ss.getD j zeroStV).no = no) := by
   obtain ⟨k, hk⟩ := h
   induction k using Nat.strongRecOn with
   | _ k ih =>
    by_cases h2 : ∃ j, j < k ∧ (j < ss.length ∧ (ss.getD j zeroStV).no = no)
    ·obtain ⟨j, hj, hp⟩ := h2
     exact ih j hj hp
    ·exact ⟨k, hk, fun j hj hp => h2 ⟨j, hj, hp⟩⟩
  obtain ⟨k, ⟨h1, h2⟩, h3⟩ := hm
  have h4 : ∀ j, j < k → (ss.getD j zeroStV).no ≠ no := fun j hj e => h3 j hj ⟨by omega, e⟩
  exact .inl ⟨k, h1, h2, h4, seated_at h1 h2 h4⟩
 ·have h2 : ∀ j, j < ss.length → (ss.getD j zeroStV).no ≠ no := fun j hj e => h ⟨j, hj, e⟩
  exact .inr ⟨h2, seated_none h2⟩
def seatB (s : SeatV) : Bool := inB s.no 0 7 && okP s.lsn s.ss
def freshAt (ss : List SeatV) (i : Nat) : Bool := seatB (ss.getD i zeroStV) && decide (seatedOf ss (ss.getD i zeroStV).no = i)
def okPool (p : PoolV) : Bool := decide (p.seats.length ≤ 3) && (inB p.hand 0 2 && (List.range p.seats.length).all (freshAt p.seats))
theorem okPool_long {p : PoolV} (h : ¬ p.seats.length ≤ 3) : okPool p = false := by simp [okPool, h]
theorem okPool_hand {p : PoolV} (h : inB p.hand 0 2 = false) : okPool p = false := by simp [okPool, h]
theorem okPool_no {p : PoolV} (k : Nat) (hk : k < p.seats.length) (h : freshAt p.seats k = false) : okPool p = false := by
 have : (List.range p.seats.length).all (freshAt p.seats) = false := by
  rw [List.all_eq_false]
  exact ⟨k, List.mem_range.2 hk, by simp [h]⟩
 simp [okPool, this]
theorem okPool_yes {p : PoolV} (h1 : p.seats.length ≤ 3) (h2 : inB p.hand 0 2 = true) (h : ∀ k, k < p.seats.length → freshAt p.seats k = true) : okPool p = true := by
 have : (List.range p.seats.length).all (freshAt p.seats) = true := by
  rw [List.all_eq_true]
  exact fun k hk => h k (List.mem_range.1 hk)
 simp [okPool, this, h1, h2]
theorem okPool_iff {p : PoolV} (h : okPool p = true) : p.seats.length ≤ 3 ∧ inB p.hand 0 2 = true ∧ ∀ k, k < p.seats.length → freshAt p.seats k = true := by
 simp only [okPool, Bool.and_eq_true, decide_eq_true_eq, List.all_eq_true] at h
 exact ⟨h.1, h.2.1, fun k hk => h.2.2 k (List.mem_range.2 hk)⟩
theorem fresh_bad {ss : List SeatV} {i : Nat} (h : seatB (ss.getD i zeroStV) = false) : freshAt ss i = false := by simp only [freshAt, h, Bool.false_and]
theorem fresh_dup {ss : List SeatV} {i k : Nat} (hk : k < i) (hi : i < ss.length) (he : (ss.getD k zeroStV).no = (ss.getD i zeroStV).no) : freshAt ss i = false := by
 have : seatedOf ss (ss.getD i zeroStV).no ≠ (i : Int) := by
  rcases seated_cases ss (ss.getD i zeroStV).no with ⟨j, h1, h2, h3, h4⟩ | ⟨h1, _⟩
  ·rw [h4]
   intro e
   have : j = i := by omega
   subst this
   exact h3 k hk he
  ·exact absurd rfl (h1 i hi)
 rw [freshAt, decide_eq_false this, Bool.and_false]
theorem fresh_yes {ss : List SeatV} {i : Nat} (hi : i < ss.length) (hb : seatB (ss.getD i zeroStV) = true) (h : ∀ k, k < i → (ss.getD k zeroStV).no ≠ (ss.getD i zeroStV).no) : freshAt ss i = true := by
 have := seated_at hi rfl h
 rw [freshAt, hb, decide_eq_true this]
 rfl
def ofTx (tx : Int) (r : RecV) : Bool := (r.tx == tx) && (r.kind != 6)
def chainDown (tx : Int) (rs : List RecV) : Nat → List Int
 | 0 => []
 | k + 1 => (if ofTx tx (rs.getD k zeroR.v) = true then [(rs.getD k zeroR.v).lsn] else []) ++ chainDown tx rs k
def chainOf (l : LogV) (tx : Int) : List Int := chainDown tx l.recs l.recs.length
theorem recD_v (rs : List RecA) (k : Nat) : (rs.map RecA.v).getD k zeroR.v = (rs.getD k zeroR).v := by
 simp only [List.getD, List.getElem?_map]
 cases rs[k]? <;> rfl
theorem chain_step (tx : Int) (rs : List RecA) (k : Nat) (L R : List Int) (h : L ++ chainDown tx (rs.map RecA.v) (k + 1) = R) :
  (if ofTx tx (rs.getD k zeroR).v = true then L ++ [(rs.getD k zeroR).lsn] else L) ++ chainDown tx (rs.map RecA.v) k = R := by
 rw [chainDown, recD_v] at h
 by_cases hq : ofTx tx (rs.getD k zeroR).v = true
 ·rw [if_pos hq] at h ⊢; rw [← h, List.append_assoc]; rfl
 ·rw [if_neg hq] at h ⊢; rw [← h]; rfl
theorem readsI_cell (w : World) (m : Int) (t : TypeId) : ReadsI (w.alloc (.cells #[.int .i64 m] t)) (some ⟨w.heap.size, 0, none⟩) [m] := by
 intro _
 refine ⟨w.heap.size, 0, rfl, fun i hi => ?_⟩
 have hi0 : i = 0 := by simp at hi; omega
 subst hi0
 exact (box_new w [.int .i64 m] t).cell 0 _ rfl
theorem all_no {n : Nat} {f : Nat → Bool} (k : Nat) (hk : k < n) (h : f k = false) : (List.range n).all f = false := by
 rw [List.all_eq_false]; exact ⟨k, List.mem_range.2 hk, by rw [h]; decide⟩
theorem all_yes {n : Nat} {f : Nat → Bool} (h : ∀ k, k < n → f k = true) : (List.range n).all f = true := by
 rw [List.all_eq_true]; exact fun k hk => h k (List.mem_range.1 hk)
theorem all_at {n : Nat} {f : Nat → Bool} (h : (List.range n).all f = true) (k : Nat) (hk : k < n) : f k = true := by
 rw [List.all_eq_true] at h; exact h k (List.mem_range.2 hk)
def zpgV : Int × List SlotV := (0, [])
def diskAt (e : EngV) (i : Nat) : Bool := okP (e.disk.getD i zpgV).1 (e.disk.getD i zpgV).2 && decide ((e.disk.getD i zpgV).1 ≤ e.log.sure)
def diskB (e : EngV) : Bool := (List.range 8).all (diskAt e)
def seatAt (e : EngV) (i : Nat) : Bool := decide ((e.seats.getD i zeroStV).lsn ≤ (e.log.recs.length : Int)) && ((e.seats.getD i zeroStV).dirty || samePg ((e.seats.getD i zeroStV).lsn, (e.seats.getD i zeroStV).ss) (e.disk.getD (e.seats.getD i zeroStV).no.toNat zpgV))
def seatsB (e : EngV) : Bool := (List.range e.seats.length).all (seatAt e)
def nextAt (e : EngV) (i : Nat) : Bool := decide ((e.log.recs.getD i zeroR.v).tx < e.next)
def nextB (e : EngV) : Bool := (List.range e.log.recs.length).all (nextAt e)
def txAt (e : EngV) (i : Nat) : Bool := inB (e.txs.getD i zeroL).tx 1 (e.next - 1) && (!(e.txs.getD i zeroL).aborts && (decide ((e.txs.getD i zeroL).last = lastOf e.log.recs (e.txs.getD i zeroL).tx) && (decide (i = 0) || decide ((e.txs.getD (i - 1) zeroL).tx < (e.txs.getD i zeroL).tx))))
def txsB (e : EngV) : Bool := (List.range e.txs.length).all (txAt e)
def freshH (hs : List HoldV) (i : Nat) : Bool := (List.range i).all fun k => decide ((hs.getD k zeroH).oid ≠ (hs.getD i zeroH).oid)
def holdAt (e : EngV) (i : Nat) : Bool := inB (e.holds.getD i zeroH).oid 1 31 && (decide (0 ≤ liveOf e.txs (e.holds.getD i zeroH).tx) && freshH e.holds i)
def holdsB (e : EngV) : Bool := (List.range e.holds.length).all (holdAt e)
def bareB (e : EngV) : Bool := decide (e.seats.length = 0) && (decide (e.txs.length = 0) && decide (e.holds.length = 0))
def okTxs (e : EngV) : Bool := txsB e && (holdsB e && decide (e.txs.length ≤ 6))
def EngV.poolV (e : EngV) : PoolV := ⟨e.seats, e.hand⟩
def okEng (e : EngV) : Bool := okLog e.log && (okPool e.poolV && (inB e.next 1 1001 && (okTxs e && (nextB e && (diskB e && (seatsB e && (!e.down || bareB e)))))))
theorem diskV_at {e : EngA} (h : e.shape) (i : Nat) (hi : i < 8) : e.v.disk.getD i zpgV = ((e.disk.getD i zeroP).lsn, (e.disk.getD i zeroP).ss.map (·.v)) := by
 have hi' : i < e.disk.length := by rw [h.eight]; exact hi
 simp [EngA.v, List.getD, hi']
theorem check_tx {r : RecV} (h : okR r = true) (hk : r.kind = 6) : r.tx = 0 := by
 by_cases hz : r.tx = 0
 ·exact hz
 ·exfalso
  simp [okR, hk, zeroB, hz] at h
theorem last_chain {l : LogV} (hl : okLog l = true) (tx : Int) (ht : 1 ≤ tx) : ∀ k, k ≤ l.recs.length → (chainDown tx l.recs k).headD 0 = lastFrom tx l.recs k := by
 obtain ⟨_, _, _, hall⟩ := okLog_yes hl
 intro k
 induction k with
 | zero => intro _; rfl
 | succ k ih =>
  intro hk
  obtain ⟨h1, h2⟩ := hall k (by omega)
  have e : l.recs.getD k zeroR.v = l.recs.getD k noR := rfl
  rw [chainDown, lastFrom, e]
  by_cases hx : (l.recs.getD k noR).tx = tx
  ·have hk6 : (l.recs.getD k noR).kind ≠ 6 := fun h6 => by have := check_tx h2 h6; omega
   have ho : ofTx tx (l.recs.getD k noR) = true := by simp only [ofTx, Bool.and_eq_true, beq_iff_eq, bne_iff_ne]; exact ⟨hx, hk6⟩
   rw [if_pos ho, if_pos hx]
   exact h1
  ·have ho : ¬ ofTx tx (l.recs.getD k noR) = true := by simp only [ofTx, Bool.and_eq_true, beq_iff_eq]; exact fun h => hx h.1
   rw [if_neg ho, if_neg hx, List.nil_append]
   exact ih (by omega)
theorem last_head {l : LogV} (hl : okLog l = true) (tx : Int) (ht : 1 ≤ tx) : (chainOf l tx).headD 0 = lastOf l.recs tx := last_chain hl tx ht _ (Nat.le_refl _)
theorem okEng_next {e : EngV} {k : Nat} (hk : k < e.log.recs.length) (h : nextAt e k = false) : okEng e = false := by
 have : nextB e = false := all_no k hk h
 simp [okEng, this]
theorem okEng_disk {e : EngV} {k : Nat} (hk : k < 8) (h : diskAt e k = false) : okEng e = false := by
 have : diskB e = false := all_no k hk h
 simp [okEng, this]
theorem okEng_seat {e : EngV} {k : Nat} (hk : k < e.seats.length) (h : seatAt e k = false) : okEng e = false := by
 have : seatsB e = false := all_no k hk h
 simp [okEng, this]
theorem okEng_all {e : EngV} (h1 : okLog e.log = true) (h2 : okPool e.poolV = true) (h3 : inB e.next 1 1001 = true) (h4 : okTxs e = true) (h5 : ∀ k, k < e.log.recs.length → nextAt e k = true) (h6 : ∀ k, k < 8 → diskAt e k = true) (h7 : ∀ k, k < e.seats.length → seatAt e k = true) : okEng e = (!e.down || bareB e) := by
 have a : nextB e = true := all_yes h5
 have b : diskB e = true := all_yes h6
 have c : seatsB e = true := all_yes h7
 simp [okEng, h1, h2, h3, h4, a, b, c]
theorem seat_no {e : EngV} (h : okPool e.poolV = true) (k : Nat) (hk : k < e.seats.length) : ∃ n : Nat, (e.seats.getD k zeroStV).no = n ∧ n < 8 := by
 obtain ⟨_, _, h3⟩ := okPool_iff h
 have := h3 k hk
 simp only [freshAt, seatB, Bool.and_eq_true] at this
 have hb := this.1.1
 simp only [inB, decide_eq_true_eq] at hb
 exact ⟨(e.seats.getD k zeroStV).no.toNat, (Int.toNat_of_nonneg hb.1).symm, by have h2 := hb.2; have h1 := hb.1; show (e.poolV.seats.getD k zeroStV).no.toNat < 8; omega⟩
theorem seat_rngE {w : World} {a : Option Addr} {ss : List SeatA} (h : ReadsSts w a ss) (k : Nat) (hk : k < ss.length) : ∃ b off, a = some ⟨b, off, none⟩ ∧ (∀ j, j < ss.length → w.rangeAt b (off + j * 20) (ss.getD j zeroSt).cells ∧ ReadsS w (ss.getD j zeroSt).ss) := by
 obtain ⟨b, off, ha, hh⟩ := h (by intro e; rw [e] at hk; simp at hk)
 exact ⟨b, off, ha, fun j hj => hh j hj⟩
def mkB (bs : List Bool) : List Value := bs.map Value.bool ++ List.replicate (4 - bs.length) (.bool false)
theorem mkB_set (bs : List Bool) (b : Bool) (h : bs.length < 4) : (mkB bs).set bs.length (.bool b) = mkB (bs ++ [b]) := by
 unfold mkB
 rw [List.set_append_right _ _ (by simp)]
 have e : 4 - bs.length = (4 - (bs ++ [b]).length) + 1 := by simp; omega
 rw [e, List.replicate_succ]
 simp
theorem mkB_len (bs : List Bool) (h : bs.length ≤ 4) : (mkB bs).length = 4 := by simp [mkB]; omega
theorem mkB_some (bs : List Bool) (h : bs.length ≤ 4) (k : Nat) (hk : k < 4) : ∃ v, (mkB bs)[k]? = some v := ⟨_, List.getElem?_eq_getElem (by rw [mkB_len bs h]; exact hk)⟩
def FourAns (bs : List Bool) (e : Ending) : Prop := ∃ c0 c1 c2 c3 : Bool, e = .returned (.agg #[.bool c0, .bool c1, .bool c2, .bool c3]) ∧ bs = [c0, c1, c2, c3]
theorem take_snoc (ss : List SlotA) (q : SlotV → Bool) (k : Nat) (h : k < ss.length) : (ss.take (k + 1)).map (fun s => q s.v) = (ss.take k).map (fun s => q s.v) ++ [q (ss.getD k zeroS).v] := by
 rw [List.take_add_one, List.map_append]
 simp [List.getD, h]
theorem markSlots_ok (p : PageA) (h4 : p.ss.length = 4) (w : World) (hg : ErrT w) (hr : ReadsS w p.ss) (hl : Fit p.ss) :
  Calls Tryz.prog 194 #[.agg p.cells.toArray, .func (.func 195) #[] #[]] w fun e w' => FourAns (p.ss.map (fun s => slotB s.v)) e ∧ Below w.heap.size w w' := by
 obtain ⟨n, ss⟩ := p
 simp only [PageA.cells] at *
 obtain ⟨W, hW, b0, b1, b2, hbW, hsW⟩ := boxes3 w (.int .i64 n :: cellsS ss) [.bool false, .bool false, .bool false, .bool false] [.bool false, .bool false, .bool false, .bool false] 47 234 234
 have b2' : Box W (w.heap.size + 1 + 1) (mkB []) 234 := b2
 have hsW' : w.heap.size + 1 + 1 < W.heap.size := by omega
 have hrg0 : W.rangeAt w.heap.size 1 (cellsS ss) := Box.range [.int .i64 n] (cellsS ss) [] (by simpa using b0)
 have hi0 : (Tryz.prog.info? 45).map (·.size) = some (cellsS ss).length := by rw [cellsS_len, h4]; kernel_rfl
 have HX := run_index_slot ss h4
 have H4 : Hid (ss.length = 4) := h4
 clear b2 hsW h4
 go_enter Tryz.func194, Tryz.ntmps194
 go_wp2_with (first | (guard_target = wpList _ _ _ (Oper.mk (some 9) _ _ _ _ _ :: _) _ _; refine wpList_load_mid rfl 45 (.tmp 8) rfl w.heap.size 1 rfl (cellsS ss) _ (by rw [hW.out]; exact hrg0) Tryz.underlying45 rfl hi0 ?_) | fail)
 rw [hW.out]
 clear hW hrg0 hi0
 go_loopw [10] (fun i wr => ∃ (k : Nat) (bs : List Bool), i = .int .i64 k ∧ k ≤ 4 ∧ Hid (bs.length = k ∧ bs = (ss.take k).map (fun s => slotB s.v)) ∧ Box wr (w.heap.size + 1 + 1) (mkB bs) 234 ∧ Below (w.heap.size + 1 + 1) W wr)
  (fun i _ => 4 - (intOf i).toNat)
 case atStart => exact ⟨0, [], rfl, by omega, ⟨rfl, rfl⟩, b2', Below.refl _ _⟩
 case round =>
  obtain ⟨k, bs, rfl, hk, hbs, hbox, hbl⟩ := hrel
  clear b2'
  have b1r := b1.below hbl (by omega)
  have hsr := hbl.size
  by_cases hlt : k < 4
  ·have hkl : k < ss.length := by rw [H4.out]; exact hlt
   have hx := HX k hlt
   clear HX
   have hbs4 : bs.length ≤ 4 := by have := hbs.out.1; omega
   have HV : Hid (_ = _) := take_snoc ss (fun s => slotB s) k hkl
   have hgr := hg.keep (hbW.trans (hbl.mono (by omega)))
   have hrk := (hr _ (getD_mem hkl)).below (hbW.trans (hbl.mono (by omega)))
   have hlk : Fit [ss.getD k zeroS] := fun s hs => by obtain rfl := List.mem_singleton.1 hs; exact hl _ (getD_mem hkl)
   generalize ss.getD k zeroS = s at *
   simp only [SlotA.cells] at hx
   obtain ⟨W1, hW1, bx, hbx1, hsx1⟩ := boxes1 wr [.bool s.v.has, .int .i64 s.v.o.kind, .slice s.aI s.v.o.ints.length s.cI, .slice s.aR s.v.o.refs.length s.cR] 44
   have hsz := hbox.lt
   have B1 : Below (w.heap.size + 1 + 1) W W1 := hbl.trans (hbx1.mono (by omega))
   go_wp2_with fail
   rw [hW1.out]
   clear hx
   refine (slotOk_any s W1 (hgr.keep hbx1) (hrk.below hbx1) hlk).mono ?_
   rintro e w2 ⟨rfl, hb2⟩
   have hs2 := hb2.size
   have bm2 := (hbox.below hbx1 hsz).below hb2 (by omega)
   obtain ⟨u, hu⟩ := mkB_some bs hbs4 k hlt
   have hc := bm2.cell k u hu
   have hf := bm2.frozen k
   obtain ⟨W3, hW3, b3, hw3, hs3⟩ := box_set bm2 k (.bool (slotB s.v))
   have b3' : Box W3 (w.heap.size + 1 + 1) (mkB (bs ++ [slotB s.v])) 234 := by
    have e := mkB_set bs (slotB s.v) (by have := hbs.out.1; omega)
    rw [hbs.out.1] at e
    rw [← e]; exact b3
   have HB : Hid ((bs ++ [slotB s.v]).length = k + 1 ∧ bs ++ [slotB s.v] = (ss.take (k + 1)).map (fun s => slotB s.v)) := ⟨by have := hbs.out.1; simp; omega, by rw [HV.out, ← hbs.out.2]⟩
   have B3 : Below (w.heap.size + 1 + 1) W W3 := (B1.trans (hb2.mono (by omega))).trans (hw3.below (Nat.le_refl _) (by omega))
   clear b3 bm2 hu HV
   go_wp2_with fail
   rw [hW3.out]
   go_roundw
   case rel => exact ⟨k + 1, bs ++ [slotB s.v], by go_num, by omega, HB, b3', B3⟩
   case measure => simp [intOf]; omega
  ·obtain rfl : k = 4 := by omega
   have hkk : ¬ ((4 : Nat) : Int) < 4 := by omega
   have HQ : Hid (bs = ss.map (fun s => slotB s.v)) := by rw [Hid, hbs.out.2, List.take_of_length_le (by rw [H4.out]; omega)]
   obtain ⟨c0, c1, c2, c3, rfl⟩ : ∃ c0 c1 c2 c3, bs = [c0, c1, c2, c3] := by
    match bs, hbs.out.1 with
    | [c0, c1, c2, c3], _ => exact ⟨c0, c1, c2, c3, rfl⟩
   have hbx : Box wr (w.heap.size + 1 + 1) [.bool c0, .bool c1, .bool c2, .bool c3] 234 := hbox
   obtain ⟨x0, x1, x2, x3, _⟩ := hbx.four
   obtain ⟨y0, y1, y2, y3, f0, f1, f2, f3⟩ := b1r.four
   obtain ⟨WF, hWF, bF, hwF, hsF⟩ := box4_fill b1r (.bool c0) (.bool c1) (.bool c2) (.bool c3)
   have hbF : Below w.heap.size w WF := (hbW.trans (hbl.mono (by omega))).trans (hwF.below (by omega) (by omega))
   clear hbox hbs
   go_wp2
   rw [hWF.out]
   obtain ⟨q0, q1, q2, q3, _⟩ := bF.four
   exact bodyPost_ret (v := .agg #[.bool c0, .bool c1, .bool c2, .bool c3]) (by simp [results, Tryz.results194, go_sem, q0, q1, q2, q3]) rfl ⟨⟨c0, c1, c2, c3, rfl, HQ.out.symm⟩, hbF⟩
theorem okP_out {n : Int} {vs : List SlotV} (h : inB n 0 1000000 = false) : okP n vs = false := by simp [okP, h]
theorem okP_four {n : Int} {ss : List SlotA} {c0 c1 c2 c3 : Bool} (h : inB n 0 1000000 = true) (hb : ss.map (fun s => slotB s.v) = [c0, c1, c2, c3]) : okP n (ss.map (·.v)) = (c0 && (c1 && (c2 && c3))) := by
 have e : (ss.map (·.v)).map slotB = [c0, c1, c2, c3] := by rw [List.map_map]; exact hb
 have e2 : ∀ vs : List SlotV, vs.all slotB = (vs.map slotB).all id := fun vs => by induction vs with
  | nil => rfl
  | cons v r ih => rw [List.all_cons, List.map_cons, List.all_cons, ← ih]; rfl
 rw [okP, h, Bool.and_true, e2, e]
 simp
theorem run_eq4 (c0 c1 c2 c3 : Bool) (w : World) : (Op.equalIn 10000 234 (.agg #[.bool c0, .bool c1, .bool c2, .bool c3]) (.agg #[.bool true, .bool true, .bool true, .bool true])).run Tryz.prog w = .ok (c0 && (c1 && (c2 && c3))) w := by
 cases c0 <;> cases c1 <;> cases c2 <;> cases c3 <;> kernel_rfl
theorem implPageOk_any (p : PageA) (h4 : p.ss.length = 4) (w : World) (hg : ErrT w) (hr : ReadsS w p.ss) (hl : Fit p.ss) :
  Calls Tryz.prog 156 #[.agg p.cells.toArray] w fun e w' => e = .returned (.bool (okP p.lsn (p.ss.map (·.v)))) ∧ Below w.heap.size w w' := by
 obtain ⟨W, hW, b0, b1, hbW, hsW⟩ := boxes2 w p.cells [.bool true, .bool true, .bool true, .bool true] 47 234
 have hc0 : ∀ w', Below W.heap.size W w' → w'.cell? ⟨w.heap.size, 0, none⟩ = some (.int .i64 p.lsn) := fun w' hh => (b0.below hh b0.lt).cell 0 _ rfl
 have hw0 := hc0 W (Below.refl _ _)
 cases hin : inB p.lsn 0 1000000 with
 | false =>
  have HF : Hid (okP p.lsn (p.ss.map (·.v)) = false) := okP_out hin
  have hz := inB_false hin
  clear hin hc0
  generalize okP p.lsn (p.ss.map (·.v)) = R at *
  generalize p.lsn = n at *
  rcases hz with h1 | ⟨h1, h2⟩
  ·have h1' : decide ((0 : Int) ≤ n) = false := decide_eq_false (by omega)
   clear h1
   go_enter Tryz.func156, Tryz.ntmps156
   go_wp2_with fail
   rw [hW.out]
   go_quiet (fail)
   go_wp2
   go_ret
   exact ⟨ret_bool HF.out.symm, below_drewN hbW _⟩
  ·have h1' : decide ((0 : Int) ≤ n) = true := decide_eq_true (by omega)
   have h2' : decide (n ≤ 1000000) = false := decide_eq_false (by omega)
   clear h1 h2
   go_enter Tryz.func156, Tryz.ntmps156
   go_wp2_with fail
   rw [hW.out]
   go_quiet (fail)
   go_wp2
   go_ret
   exact ⟨ret_bool HF.out.symm, below_drewN hbW _⟩
 | true =>
  obtain ⟨h1, h2⟩ := inB_true hin
  have h1' : (0 : Int) ≤ p.lsn := by omega
  have h2' : p.lsn ≤ 1000000 := by omega
  have HIN : Hid (_ = _) := hin
  have HRG : Hid (∀ w', Below W.heap.size W w' → w'.rangeAt w.heap.size 0 p.cells) := fun w' hh => Box.range [] p.cells [] (by simpa using b0.below hh b0.lt)
  have HRA : Hid (∀ w', Below W.heap.size W w' → w'.rangeAt (w.heap.size + 1) 0 [.bool true, .bool true, .bool true, .bool true]) := fun w' hh => Box.range [] [.bool true, .bool true, .bool true, .bool true] [] (by simpa using b1.below hh b1.lt)
  have HI : Hid ((Tryz.prog.info? 47).map (·.size) = some p.cells.length) := by rw [Hid, page_len p h4]; kernel_rfl
  clear hin h1 h2
  go_enter Tryz.func156, Tryz.ntmps156
  go_wp2_with fail
  rw [hW.out]
  refine wp_region_held_drew (S := fun w' => w'.cell? ⟨w.heap.size, 0, none⟩ = some (.int .i64 p.lsn) ∧ w'.rangeAt w.heap.size 0 p.cells ∧ w'.rangeAt (w.heap.size + 1) 0 [.bool true, .bool true, .bool true, .bool true]) (by kernel_rfl) ?_ (fun hHeld => ?_)
  ·exact ⟨hc0 _ (Below.refl _ _).drew, HRG.out _ (Below.refl _ _).drew, HRA.out _ (Below.refl _ _).drew⟩
  have hd1 : decide ((0 : Int) ≤ p.lsn) = true := decide_eq_true h1'
  have hd2 : decide (p.lsn ≤ 1000000) = true := decide_eq_true h2'
  refine tk 0 (v := .pointer (some ⟨w.heap.size, 0, none⟩)) rfl (Or.inl ⟨by rfl, fun w' hw' => ?_⟩) hHeld ?_
  ·go_simp
  go_simp
  refine tk 1 (v := .int .i64 p.lsn) rfl (Or.inl ⟨by rfl, fun w' hw' => ?_⟩) hHeld ?_
  ·have q := hw'.1; go_simp
  go_simp
  refine tk 2 (v := .bool true) rfl (Or.inl ⟨by rfl, fun w' hw' => ?_⟩) hHeld ?_
  ·go_simp
  go_simp
  refine tk 3 (v := .bool true) rfl (Or.inl ⟨by rfl, fun w' hw' => ?_⟩) hHeld ?_
  ·go_simp
  go_simp
  refine tk 4 (v := .pointer (some ⟨w.heap.size, 0, none⟩)) rfl (Or.inl ⟨by rfl, fun w' hw' => ?_⟩) hHeld ?_
  ·go_simp
  go_simp
  refine tk 5 (v := .int .i64 p.lsn) rfl (Or.inl ⟨by rfl, fun w' hw' => ?_⟩) hHeld ?_
  ·have q := hw'.1; go_simp
  go_simp
  refine tk 6 (v := .bool true) rfl (Or.inl ⟨by rfl, fun w' hw' => ?_⟩) hHeld ?_
  ·go_simp
  go_simp
  refine tk 7 (v := .bool true) rfl (Or.inl ⟨by rfl, fun w' hw' => ?_⟩) hHeld ?_
  ·go_simp
  go_simp
  refine tk 8 (v := .bool true) rfl (Or.inl ⟨by rfl, fun w' hw' => ?_⟩) hHeld ?_
  ·go_simp
  go_simp
  refine tk 9 rfl (yieldsIf_load_mid (by rfl) _ _ rfl _ _ rfl p.cells _ (fun _ h => h.2.1) Tryz.underlying47 rfl HI.out) hHeld ?_
  go_simp
  refine tk 11 rfl (yieldsIf_load_mid (by rfl) _ _ rfl _ _ rfl [.bool true, .bool true, .bool true, .bool true] _ (fun _ h => h.2.2) Tryz.underlying234 rfl (by kernel_rfl)) hHeld ?_
  go_simp
  refine wpAnyH_ready (rs := [10]) (by kernel_rfl) (by simp) ?_
  refine AllReadyH.cons rfl (fun K hK => ?_) AllReadyH.nil
  go_simp
  refine (markSlots_ok p h4 _ (hg.keep hbW.drew) (hr.below hbW.drew) hl).mono ?_
  rintro e w2 ⟨⟨c0, c1, c2, c3, rfl, hcs⟩, hb2⟩
  have B2 : Below W.heap.size W w2 := ((Below.refl _ _).drew).trans hb2
  have HR : Hid (_ = _) := okP_four HIN.out hcs
  clear hcs
  refine hK.out _ _ ⟨hc0 _ B2, HRG.out _ B2, HRA.out _ B2⟩ (fun hHeld => ?_)
  clear hK K
  refine tk 12 (v := .bool (c0 && (c1 && (c2 && c3)))) rfl (Or.inl ⟨by rfl, fun w' hw' => ?_⟩) hHeld ?_
  ·have q := run_eq4 c0 c1 c2 c3 w'; go_simp
  go_simp
  generalize (c0 && (c1 && (c2 && c3))) = D at *
  refine tk 13 (v := .bool D) rfl (Or.inl ⟨by rfl, fun w' hw' => ?_⟩) hHeld ?_
  ·go_simp
  go_simp
  refine tk 14 (v := .bool D) rfl (Or.inl ⟨by rfl, fun w' hw' => ?_⟩) hHeld ?_
  ·go_simp
  go_simp
  refine wpAnyH_done (by kernel_rfl) ?_ _
  go_wp2
  go_ret
  exact ⟨ret_bool HR.out.symm, hbW.trans (B2.mono hbW.size)⟩
end Go.Proofs.YtpgeemdjghkjiabGreatDoor
namespace Go.Proofs.YtpgeemdjghkjiabGreatDoor
open Go.RowKit
theorem implSeated_any (p : PoolA) (no : Int) (w : World) (hr : p.reads w) (hl : p.short 1099511627776) :
  Calls Tryz.prog 157 #[.agg p.cells.toArray, .int .i64 no] w fun r w' => r = .returned (.int .i64 (seatedOf p.v.seats no)) ∧ Below w.heap.size w w' := by
 obtain ⟨ls, hand, a, c⟩ := p
 have hlen := hl.len
 simp only [PoolA.cells, PoolA.reads, PoolA.v] at *
 obtain ⟨W, hW, b0, hbW, hsW⟩ := boxes1 w [.slice a ls.length c, .int .i64 hand] 51
 have HR : Hid (∀ u, Below W.heap.size W u → ReadsSts u a ls) := fun u hu => hr.below (hbW.trans (hu.mono hbW.size))
 have HF : Hid (seatFrom no ((ls.map SeatA.v).drop 0) 0 = seatedOf (ls.map SeatA.v) no) := rfl
 have HJ : Hid ((Tryz.prog.info? 149).map (·.size) = some 20) := by rw [Hid]; kernel_rfl
 generalize seatedOf (ls.map SeatA.v) no = R at *
 clear hsW hr hl
 have x0 := b0.cell 0 _ rfl
 go_enter Tryz.func157, Tryz.ntmps157
 go_upto_region 1 with fail
 rw [hW.out]
 clear hW
 go_wp2_with fail
 clear x0 b0
 go_loopw [10] (fun i wr => ∃ (k : Nat), i = .int .i64 k ∧ k ≤ ls.length ∧ Hid (seatFrom no ((ls.map SeatA.v).drop k) k = R) ∧ Below W.heap.size W wr)
  (fun i _ => ls.length - (intOf i).toNat)
 case atStart => exact ⟨0, rfl, by omega, HF, Below.refl _ _⟩
 case round =>
  obtain ⟨k, rfl, hk, hR, hbl⟩ := hrel
  have hrr := HR.out wr hbl
  have hbT : Below w.heap.size w wr := hbW.trans (hbl.mono hbW.size)
  by_cases hlt : k < ls.length
  ·obtain ⟨b, off, rfl, hcell⟩ := hrr (by rintro rfl; simp at hlt)
   have HRG : Hid (wr.rangeAt b (off + k * 20) (ls.getD k zeroSt).cells) := (hcell k hlt).1
   clear hcell
   have hkk : (k : Int) < (ls.length : Int) := by omega
   have hi0 : (0 : Int) ≤ (k : Int) := by omega
   have HR2 : Hid ((if (ls.getD k zeroSt).no = no then (k : Int) else seatFrom no ((ls.map SeatA.v).drop (k + 1)) (k + 1)) = R) := by
    have h := hR.out
    rw [dropSt_at ls k hlt, seatFrom] at h
    exact h
   generalize ls.getD k zeroSt = z at *
   obtain ⟨W1, hW1, b1, hb1, hs1⟩ := boxes1 wr [.int .i64 0, .int .i64 0, .bool false, .int .i64 0, .slice none 0 0, .slice none 0 0, .bool false, .int .i64 0, .slice none 0 0, .slice none 0 0, .bool false, .int .i64 0, .slice none 0 0, .slice none 0 0, .bool false, .int .i64 0, .slice none 0 0, .slice none 0 0, .bool false, .bool false] 149
   obtain ⟨W2, hW2, hw2, hs2, HT2, _, b2⟩ := seat_out z _ rfl b1
   have hB2 : Below W.heap.size W W2 := (hbl.trans (hb1.mono hbl.size)).trans (hw2.below hbl.size (by have := hbl.size; omega))
   have hbT2 : Below w.heap.size w W2 := hbW.trans (hB2.mono hbW.size)
   have x0 : W2.cell? ⟨wr.heap.size, 0, none⟩ = some (.int .i64 z.no) := b2.cell 0 _ rfl
   have HW2 : Hid (W1.setCells wr.heap.size 0 z.cells.toArray.toList = W2) := hW2.out
   have hOz := seat_one z
   clear hs1 hs2 b1 b2 hb1 hw2 hW2 hR hbl hbT
   by_cases hq : z.no = no
   ·have HR3 : Hid ((k : Int) = R) := by have h := HR2.out; rw [if_pos hq] at h; exact h
    have hqb : (z.no == no) = true := by simpa using hq
    clear hq HR2
    go_wp2_with (first | (guard_target = wpList _ _ _ (Oper.mk (some 14) _ _ _ _ _ :: _) _ _; refine wpList_load_mid rfl 149 (.tmp 13) rfl b (off + k * 20) rfl z.cells _ HRG.out Tryz.underlying149 rfl HJ.out ?_) | (guard_target = wpList _ _ _ (Oper.mk none (Op.store _ (Operand.tmp 6) _) _ _ _ _ :: _) _ _; refine wpList_store_mid rfl 149 (.tmp 6) (.tmp 14) rfl wr.heap.size 0 z.cells.toArray rfl rfl (by rw [hW1.out]; exact HT2.out) HJ.out hOz ?_; rw [hW1.out, HW2.out]) | fail)
    go_ret
    exact ⟨ret_int HR3.out, hbT2⟩
   ·have HR3 : Hid (seatFrom no ((ls.map SeatA.v).drop (k + 1)) (k + 1) = R) := by have h := HR2.out; rw [if_neg hq] at h; exact h
    have hqb : (z.no == no) = false := by simpa using hq
    clear hq HR2
    go_wp2_with (first | (guard_target = wpList _ _ _ (Oper.mk (some 14) _ _ _ _ _ :: _) _ _; refine wpList_load_mid rfl 149 (.tmp 13) rfl b (off + k * 20) rfl z.cells _ HRG.out Tryz.underlying149 rfl HJ.out ?_) | (guard_target = wpList _ _ _ (Oper.mk none (Op.store _ (Operand.tmp 6) _) _ _ _ _ :: _) _ _; refine wpList_store_mid rfl 149 (.tmp 6) (.tmp 14) rfl wr.heap.size 0 z.cells.toArray rfl rfl (by rw [hW1.out]; exact HT2.out) HJ.out hOz ?_; rw [hW1.out, HW2.out]) | fail)
    go_roundw
    case rel => exact ⟨k + 1, by go_num, by omega, HR3, hB2⟩
    case measure => simp [intOf]; omega
  ·have hkk : ¬ (k : Int) < (ls.length : Int) := by omega
   have HR' : Hid (-1 = R) := by
    have h := hR.out
    rw [List.drop_eq_nil_of_le (by rw [List.length_map]; omega), seatFrom] at h
    exact h
   clear hR
   go_wp2
   go_ret
   exact ⟨ret_int HR'.out, hbT⟩
end Go.Proofs.YtpgeemdjghkjiabGreatDoor