/- Several texts in one, in their order. -/
import Derived.Test.YtoboickdkednkaaDoorPFnPoolsx15
import Derived.Test.YtoboickdkednkaaDoorPFnPoolsx13
import Derived.Test.YtoboickdkednkaaDoorPFnPoolsx17
import Derived.Test.YtoboickdkednkaaDoorPFnPoolsx12
import Derived.Test.YtoboickdkednkaaDoorPFnPoolsx6
import Derived.Deep.RegionHeld3
import Derived.Test.YtoboickdkednkaaDoorPFnPoolsx16
import Derived.Test.YtoboickdkednkaaDoorPFnPoolsx14
import Derived.Test.YtoboickdkednkaaDoorProg
import Derived.Test.YtoboickdkednkaaDoorPFnPoolsx1
import Derived.ProofKit
import Derived.OpenShut
import Derived.ChangeOld
import Derived.Test.YtoboickdkednkaaDoorPFnPoolsx10
import Derived.WalkMore
import Derived.ScopeJumps
/- The walk of impl.copyPool. -/
namespace Go.Proofs.YtoboickdkednkaaDoor
open Go.RowKit

set_option maxRecDepth 100000 in
theorem build_seats1 {w : World} {ops : Array Oper} {rest : List Oper} {dst : Option Nat} {ty : TypeId} {pos : String} {aft : Array Edge} {act : Act} {Q : Exit → Act → World → Prop} (x : Operand)
    (q : SeatA) (hx : act.eval x = .agg q.cells.toArray)
    (h : wpList Tryd.prog ops Q rest (act.put dst (.slice (some ⟨w.heap.size, 0, none⟩) 1 1)) (w.alloc (.cells q.cells.toArray 38))) :
    wpList Tryd.prog ops Q ({ dst := dst, op := .buildSlice 24 1 #[(0, x)], type := ty, pos := pos, after := aft, guard := none } :: rest) act w := by
  refine wpList_plain rfl fun K hK => ?_
  unfold Oper.wp execOp
  simp only [List.map_toArray, List.map_cons, List.map_nil, hx]
  go_simp
  simp only [cellsSt_len, lit_seat, not_true_eq_false, Nat.lt_irrefl, or_self, if_false]
  go_simp
  exact hK _ _ h

set_option maxHeartbeats 2000000 in
set_option maxRecDepth 100000 in
theorem copyPool_any (l : PoolA) (w : World) (hr : l.reads w) (hl : l.short 1048576) :
    Calls Tryd.prog 25 #[.agg l.cells.toArray] w fun e w' => ∃ t : PoolA, e = .returned (.agg t.cells.toArray) ∧ Hid (t.v = l.v) ∧ t.own w' w.heap.size w'.heap.size ∧ Below w.heap.size w w' := by
  obtain ⟨rs, s, a, c⟩ := l
  have hl2 := (PoolA.short_wide hl).each
  have hl0 := hl.len
  simp only [PoolA.reads, PoolA.cells, PoolA.own] at *
  obtain ⟨W, hW, b0, b1, b2, hbW, hsW⟩ := boxes3 w [.slice a rs.length c, .int .i64 s] [.slice none 0 0, .int .i64 0] [.slice none 0 0, .int .i64 s] 26 26 26
  have hs0 : w.heap.size + 1 + 1 < W.heap.size := by omega
  clear hsW
  have x0 := b0.cell 0 _ rfl
  have HC : Hid (∀ k, k < rs.length → ∃ b off, a = some ⟨b, off, none⟩ ∧ w.rangeAt b (off + k * 20) (rs.getD k zeroSt).cells ∧ (rs.getD k zeroSt).reads w ∧ (rs.getD k zeroSt).short 1099511627776) := fun k hk => by
    obtain ⟨b, off, ha, hc⟩ := hr (by intro e; rw [e] at hk; simp at hk)
    exact ⟨b, off, ha, (hc k hk).1, (hc k hk).2, hl2 _ (seatD_mem rs k hk)⟩
  have HJ : Hid ((Tryd.prog.info? 38).map (·.size) = some 20) := by rw [Hid]; kernel_rfl
  clear hr hl hl2
  go_enter Tryd.func25, Tryd.ntmps25
  go_wp2_with fail
  rw [hW.out]
  clear hW x0
  go_loopw [12] (fun i wr => ∃ (k : Nat) (ts : List SeatA) (a' : Option Addr) (c' : Nat), k ≤ rs.length ∧ i = .int .i64 k ∧ Hid (CameSt rs ts k) ∧ Box wr (w.heap.size + 1 + 1) [.slice a' ts.length c', .int .i64 s] 26 ∧ Box wr (w.heap.size + 1) [.slice none 0 0, .int .i64 0] 26 ∧ OwnSts wr W.heap.size wr.heap.size a' c' ts ∧ Below w.heap.size w wr ∧ W.heap.size ≤ wr.heap.size)
    (fun i _ => rs.length - (intOf i).toNat)
  case atStart => exact ⟨0, [], none, 0, Nat.zero_le _, rfl, cameSt_none rs, b2, b1, ownSts_nil _ _ _ (Nat.le_refl _), hbW, Nat.le_refl _⟩
  case round =>
    obtain ⟨k, ts, a', c', hk, rfl, hc, k2, k1, hown, hnx, hsz⟩ := hrel
    clear b0 b1 b2 hbW
    by_cases hlt : k < rs.length
    · obtain ⟨b, off, rfl, hcell, hrd, hsh⟩ := HC.out k hlt
      have hnw := hnx.size
      have HRG : Hid (wr.rangeAt b (off + k * 20) (rs.getD k zeroSt).cells) := rangeAt_below hcell hnx (rangeSt_lt hcell)
      have HS : Hid (∀ q : SeatA, q.v = (rs.getD k zeroSt).v → CameSt rs (ts ++ [q]) (k + 1)) := fun q hq => hc.out.snoc hlt hq
      have hll : ts.length + 1 ≤ 68719476736 := by have := hc.out.1; omega
      have hrdw := hrd.below hnx
      have hkk : (k : Int) < (rs.length : Int) := by omega
      have hk0 : (0 : Int) ≤ (k : Int) := by omega
      clear hcell HC hrd hc
      generalize rs.getD k zeroSt = z at *
      obtain ⟨W1, hW1, d1, hb1, hs1⟩ := boxes1 wr [.int .i64 0, .int .i64 0, .bool false, .int .i64 0, .slice none 0 0, .slice none 0 0, .bool false, .int .i64 0, .slice none 0 0, .slice none 0 0, .bool false, .int .i64 0, .slice none 0 0, .slice none 0 0, .bool false, .int .i64 0, .slice none 0 0, .slice none 0 0, .bool false, .bool false] 38
      obtain ⟨W2, hW2, hw2, hs2, HT2, _, d2⟩ := seat_out z _ rfl d1
      have hB2 : Below wr.heap.size wr W2 := hb1.trans (hw2.below (Nat.le_refl _) (by omega))
      have xp : W2.rangeAt wr.heap.size 1 z.page.cells := seat_page z d2
      have HIP := Tryd.infoPg z.page rfl
      have C := copyPage_own z.page rfl W2 (hrdw.below hB2) hsh
      have HW2 : Hid (W1.setCells wr.heap.size 0 z.cells.toArray.toList = W2) := hW2.out
      have hOz := seat_one z
      have k22 := k2.below hB2 k2.lt
      have k12 := k1.below hB2 k1.lt
      have o2 := hown.below hB2
      have hn2 : Below w.heap.size w W2 := hnx.trans (hB2.mono hnw)
      have hs2' := hB2.size
      have hd2 := d2.lt
      clear hs1 hs2 d1 hb1 hw2 hW2 hrdw hsh k2 k1 hown hnx
      generalize hpc : z.page.cells = pc at *
      go_wp2_with (first | (guard_target = wpList _ _ _ (Oper.mk (some 15) _ _ _ _ _ :: _) _ _; refine wpList_load_mid rfl 38 (.tmp 14) rfl b (off + k * 20) rfl z.cells _ HRG.out Tryd.underlying38 rfl HJ.out ?_) | (guard_target = wpList _ _ _ (Oper.mk none (Op.store _ (Operand.tmp 5) _) _ _ _ _ :: _) _ _; refine wpList_store_mid rfl 38 (.tmp 5) (.tmp 15) rfl wr.heap.size 0 z.cells.toArray rfl rfl (by rw [hW1.out]; exact HT2.out) HJ.out hOz ?_; rw [hW1.out, HW2.out]) | (guard_target = wpList _ _ _ (Oper.mk (some 17) _ _ _ _ _ :: _) _ _; refine wpList_load_mid rfl 34 (.tmp 16) rfl wr.heap.size 1 rfl pc _ xp Tryd.underlying34 rfl HIP ?_) | fail)
      refine C.mono ?_
      clear C xp HIP HRG hW1 HW2 HT2 hpc
      rintro e w3 ⟨us, rfl, hv, ho, hb3⟩
      obtain ⟨y0, y1, y2, y3, rfl⟩ := four_slots' (ts := us) (by have := congrArg List.length hv.out; simpa [SeatA.page, SeatA.ss] using this)
      have hs3 := hb3.size
      have d3 := d2.below hb3 d2.lt
      obtain ⟨W4, hW4, d4, hw4, hs4, hth4⟩ := seat_fill z d3 z.page.lsn y0 y1 y2 y3
      obtain ⟨q, hq⟩ : ∃ q : SeatA, Hid ((⟨z.no, z.page.lsn, y0, y1, y2, y3, z.dirty, z.hot⟩ : SeatA) = q) := ⟨_, rfl⟩
      rw [hq.out] at d4
      have oq : q.own w3 W2.heap.size w3.heap.size := by rw [← hq.out]; exact ho
      have HV : Hid (q.v = z.v) := by rw [Hid, ← hq.out]; simp only [SeatA.v, SeatA.ss]; rw [show List.map (fun x : SlotA => x.v) [y0, y1, y2, y3] = z.page.ss.map (·.v) from hv.out]; rfl
      have k24 := (k22.below hb3 k22.lt).within hw4 (by omega)
      have k14 := (k12.below hb3 k12.lt).within hw4 (by omega)
      have o4 := (o2.below hb3).within hw4 (.inl (by omega))
      have oq4 := oq.within hw4 (.inr (by omega))
      have hn4 : Below w.heap.size w W4 := (hn2.trans (hb3.mono hn2.size)).trans (hw4.below (by omega) (by omega))
      have rq : W4.rangeAt wr.heap.size 0 q.cells := Box.range [] q.cells [] (by simpa using d4)
      have HI1 := Tryd.infoPg ⟨z.page.lsn, [y0, y1, y2, y3]⟩ rfl
      have HO1 := page_one ⟨z.page.lsn, [y0, y1, y2, y3]⟩
      have HI2 := seat_info q
      have HW4 : Hid (w3.setCells wr.heap.size 1 (PageA.cells ⟨z.page.lsn, [y0, y1, y2, y3]⟩).toArray.toList = W4) := hW4.out
      have e0 := k24.cell 0 _ rfl
      have hs4a := Nat.le_of_eq hs4
      have hs4b := Nat.le_of_eq hs4.symm
      obtain ⟨W5, hW5, d5, hb5, hs5⟩ := boxes1 W4 q.cells 38
      have k25 := k24.below hb5 k24.lt
      have k15 := k14.below hb5 k14.lt
      have o5 := o4.below hb5
      have oq5 := oq4.below hb5
      have hn5 : Below w.heap.size w W5 := hn4.trans (hb5.mono hn4.size)
      have r5 : W5.rangeAt W4.heap.size 0 q.cells := Box.range [] q.cells [] (by simpa using d5)
      have hs5' := hb5.size
      clear hW4 hq hs4 hw4 d3 d4 d2 oq ho hv hb3 k22 k12 o2 k24 k14 o4 oq4 hn2 hn4 hb5 d5 hs5
      generalize PageA.cells ⟨z.page.lsn, [y0, y1, y2, y3]⟩ = pc2 at *
      go_wp2_with (first | (guard_target = wpList _ _ _ (Oper.mk none (Op.store _ (Operand.tmp 19) _) _ _ _ _ :: _) _ _; refine wpList_store_mid rfl 34 (.tmp 19) (.tmp 18) rfl wr.heap.size 1 pc2.toArray rfl rfl hth4 (by rw [List.size_toArray]; exact HI1) HO1 ?_; rw [HW4.out]) | (guard_target = wpList _ _ _ (Oper.mk (some 22) _ _ _ _ _ :: _) _ _; refine wpList_load_mid rfl 38 (.tmp 5) rfl wr.heap.size 0 rfl q.cells _ rq Tryd.underlying38 rfl HI2 ?_) | (guard_target = wpList _ _ _ (Oper.mk (some 23) _ _ _ _ _ :: _) _ _; refine build_seats1 (.tmp 22) q rfl ?_; rw [hW5.out]) | (guard_target = wpList _ _ _ (Oper.mk (some 24) _ _ _ _ _ :: _) _ _; refine append_seat rfl _ _ rfl W.heap.size wr.heap.size a' c' ts rfl o5 W4.heap.size 0 1 q rfl r5 W2.heap.size w3.heap.size oq5 (by omega) (by omega) hll (by omega) ?_) | fail)
      intro a9 c9 w9 o9 g9
      have HCM := HS.out q HV.out
      obtain ⟨ys, hys⟩ : ∃ ys, Hid (ts ++ [q] = ys) := ⟨_, rfl⟩
      have hyl : ts.length + 1 = ys.length := by rw [← hys.out]; simp
      rw [hys.out] at o9 HCM
      rw [hyl]
      clear hyl
      have hw9 : Within W.heap.size wr.heap.size W5 w9 := Within.of_grown g9 (fun j hj => ⟨(o5.row.lt j hj).1, o5.blk j hj⟩)
      have hs9 := hw9.size
      have hn9 : Below w.heap.size w w9 := hn5.trans (hw9.below (by omega) (by omega))
      have k29 := k25.within hw9 (by omega)
      have k19 := k15.within hw9 (by omega)
      have m0 := k29.cell 0 _ rfl
      have mf0 := k29.frozen 0
      obtain ⟨WF, hWF, kF, hwF, hsF⟩ := box_set k29 0 (.slice a9 ys.length c9)
      simp only [List.set] at kF
      have hsFa := Nat.le_of_eq hsF
      have hsFb := Nat.le_of_eq hsF.symm
      have k1F := k19.within hwF (by omega)
      have oF := (o9.within hwF (.inr (by omega))).widen (Nat.le_refl _) hsFb (Nat.le_refl _)
      have hnF : Below w.heap.size w WF := hn9.trans (hwF.below (by omega) (by omega))
      clear hwF k29 k19 o9 hsF g9 hw9 e0 k25 k15 o5 oq5 r5 rq HW4 hW5
      go_wp2_with fail
      rw [hWF.out]
      go_roundw
      case rel => exact ⟨k + 1, ys, a9, c9, by omega, by go_num, HCM, kF, k1F, oF, hnF, by omega⟩
      case measure => simp [intOf]; omega
    · have HE : Hid (ts.map SeatA.v = rs.map SeatA.v) := by
        have e : k = rs.length := by omega
        rw [e] at hc
        exact hc.out.all
      have e0 := k2.cell 0 _ rfl
      have e1 := k2.cell 1 _ rfl
      have m0 := k1.cell 0 _ rfl
      have m1 := k1.cell 1 _ rfl
      have mf0 := k1.frozen 0
      have mf1 := k1.frozen 1
      obtain ⟨WF, hWF, bF, hwF, hsF⟩ := box2_fill k1 (.slice a' ts.length c') (.int .i64 s)
      have q0 := bF.cell 0 _ rfl
      have q1 := bF.cell 1 _ rfl
      have hoF := (hown.within hwF (.inr (by omega))).widen (show w.heap.size ≤ W.heap.size by omega) (show wr.heap.size ≤ WF.heap.size by omega) (Nat.le_refl _)
      have hbF : Below w.heap.size w WF := hnx.trans (hwF.below (by omega) (by have := hnx.size; omega))
      clear hwF hsF bF
      go_wp2
      rw [hWF.out]
      exact bodyPost_ret (v := .agg #[.slice a' ts.length c', .int .i64 s]) (by simp [results, Tryd.results25, go_sem, q0, q1]) rfl ⟨⟨ts, s, a', c'⟩, rfl, by simp only [Hid, PoolA.v]; rw [HE.out], hoF, hbF⟩
end Go.Proofs.YtoboickdkednkaaDoor

/- The walks of spec.Change and impl.Change. -/
namespace Go.Proofs.YtoboickdkednkaaDoor
open Go.RowKit

end Go.Proofs.YtoboickdkednkaaDoor

/- The walks of spec.Used and impl.Used. -/
namespace Go.Proofs.YtoboickdkednkaaDoor
open Go.RowKit

end Go.Proofs.YtoboickdkednkaaDoor

/- The walks of spec.Clean and impl.Clean. -/
namespace Go.Proofs.YtoboickdkednkaaDoor
open Go.RowKit

end Go.Proofs.YtoboickdkednkaaDoor

/- What the pool's functions make stays short. -/
namespace Go.Proofs.YtoboickdkednkaaDoor
open Go.RowKit

def SeatV.short (s : SeatV) (m : Nat) : Prop := ∀ x ∈ s.ss, x.o.ints.length ≤ m ∧ x.o.refs.length ≤ m
theorem zeroStV_short (m : Nat) : zeroStV.short m := by
  intro x hx
  have : x = zeroS.v := by
    have e : zeroStV.ss = [zeroS.v, zeroS.v, zeroS.v, zeroS.v] := rfl
    rw [e] at hx
    simpa using hx
  rw [this]
  exact ⟨Nat.zero_le _, Nat.zero_le _⟩
theorem getV_short {ss : List SeatV} {m : Nat} (h : ∀ s ∈ ss, s.short m) (k : Nat) : (ss.getD k zeroStV).short m := by
  by_cases hk : k < ss.length
  · have e : ss.getD k zeroStV = ss[k] := by simp [List.getD, hk]
    rw [e]
    exact h _ (List.getElem_mem hk)
  · have e : ss.getD k zeroStV = zeroStV := by simp [List.getD, List.getElem?_eq_none (by omega : ss.length ≤ k)]
    rw [e]
    exact zeroStV_short m
theorem setV_short {ss : List SeatV} {m k : Nat} {x : SeatV} (h : ∀ s ∈ ss, s.short m) (hx : x.short m) : ∀ s ∈ ss.set k x, s.short m := fun s hs => by
  rcases List.mem_or_eq_of_mem_set hs with hs | rfl
  · exact h s hs
  · exact hx
theorem victimV_short {m : Nat} (n : Nat) : ∀ (ss : List SeatV) (h : Nat), (∀ s ∈ ss, s.short m) → ∀ s ∈ (victimV n ss h).1, s.short m := by
  induction n with
  | zero => intro ss h hs; exact hs
  | succ n ih =>
    intro ss h hs
    rw [victimV]
    split
    · exact ih _ _ (setV_short hs (fun x hx => getV_short hs h x hx))
    · exact hs
theorem pool_shortV {p : PoolA} {m : Nat} (h : p.short m) : ∀ s ∈ p.v.seats, s.short m := fun s hs => by
  obtain ⟨r, hr, rfl⟩ := List.mem_map.1 hs
  intro x hx
  obtain ⟨y, hy, rfl⟩ := List.mem_map.1 hx
  exact h.each r hr y hy
theorem short_by {t : PoolA} {m : Nat} (hlen : t.v.seats.length ≤ m) (h : ∀ s ∈ t.v.seats, s.short m) : t.short m := by
  refine ⟨by simpa [PoolA.v] using hlen, fun r hr x hx => ?_⟩
  exact h r.v (List.mem_map.2 ⟨r, hr, rfl⟩) x.v (List.mem_map.2 ⟨x, hx, rfl⟩)
theorem bringV_short {m : Nat} {ss : List SeatV} {h : Nat} {new : SeatV} (hs : ∀ s ∈ ss, s.short m) (hn : new.short m) : (∀ s ∈ (bringV ss h new).1, s.short m) ∧ (bringV ss h new).2.2.1.short m := by
  rw [bringV]
  split
  · refine ⟨fun s hs' => ?_, zeroStV_short m⟩
    rcases List.mem_append.1 hs' with h' | h'
    · exact hs s h'
    · rw [List.mem_singleton.1 h']; exact hn
  · exact ⟨setV_short (victimV_short 4 _ _ hs) hn, getV_short (victimV_short 4 _ _ hs) _⟩
theorem bringV_len {ss : List SeatV} {h : Nat} {new : SeatV} (h3 : ss.length ≤ 3) : (bringV ss h new).1.length ≤ 3 := by
  rw [bringV]
  split
  · simp; omega
  · simpa [victim_len] using h3
theorem bring_short {p t : PoolA} {no lsn : Int} {ss : List SlotV} (h : t.v = (bringOf p.v no lsn ss).1) (hl : p.short 1048576) (hp : ∀ x ∈ ss, x.o.ints.length ≤ 1048576 ∧ x.o.refs.length ≤ 1048576) : t.short 1048576 := by
  have hs := pool_shortV hl
  have hlen : p.v.seats.length ≤ 1048576 := by have := hl.len; simpa [PoolA.v] using this
  rw [bringOf] at h
  split at h
  · rename_i hm
    have h3 : p.v.seats.length ≤ 3 := by
      simp only [mayBring, Bool.and_eq_true] at hm
      exact (okPool_iff hm.1).1
    have hb := bringV_short (h := p.v.hand.toNat) hs (new := ⟨no, lsn, ss, false, true⟩) hp
    have hl3 := bringV_len (h := p.v.hand.toNat) (new := ⟨no, lsn, ss, false, true⟩) h3
    exact short_by (by rw [h]; show (bringV p.v.seats p.v.hand.toNat ⟨no, lsn, ss, false, true⟩).1.length ≤ 1048576; omega) (by rw [h]; exact hb.1)
  · exact short_by (by rw [h]; exact hlen) (by rw [h]; exact hs)
end Go.Proofs.YtoboickdkednkaaDoor

/- What came in, read: a slice of bytes. -/
namespace Go.Proofs.YtoboickdkednkaaDoor
open Go.ChangeShapes Go.WideShapes Go.ChangeAt Go.RowKit

section
variable {H : Type} {enc : TypeId × Value → H} {w : World} {base : Nat} {spare : Nat → Bool} {held : Bool}

theorem trod_bytes {fuel : Nat} {cs : List Value} {x : DataW H × List MemPlace} (h : DataW.trod enc Tryd.prog w base spare held fuel 22 cs = some x) :
    ∃ (a : Option Addr) (c : Nat) (ns : List Int), cs = [.slice a ns.length c] ∧ Reads w a ns ∧ (a = none → c = 0) ∧ ns.length ≤ maxLen := by
  rcases open_ints Tryd.underlying22 Tryd.underlying5 (by kernel_rfl) h with ⟨rfl, _⟩ | ⟨a, len, cap, zs, rfl, _, hl, hm, hz, _, hcell, hwf⟩
  · exact ⟨none, 0, [], rfl, ⟨by simp, by simp⟩, fun _ => rfl, by simp⟩
  · have hlz : len ≤ zs.length := by rw [hz]; split <;> omega
    refine ⟨some a, cap, zs.take len, by simp; omega, ⟨fun z hzz => ?_, ?_⟩, (fun h => by cases h), by simp; omega⟩
    · have := hwf z (List.mem_of_mem_take hzz)
      simp [Lit.wf, IntKind.min, IntKind.max, IntKind.signed, IntKind.bits] at this
      omega
    · intro hne
      have hpos := List.length_pos_iff.2 hne
      simp at hpos
      obtain ⟨b, off, spot⟩ := a
      have hc0 := hcell 0 (by omega)
      have hspot : spot = none := by simpa [Addr.add] using World.cell?_spot hc0
      subst hspot
      refine ⟨b, off, rfl, fun i hi => ?_⟩
      have hi' : i < len := by simp at hi; omega
      have := hcell i (by omega)
      have e : (List.take len zs).getD i 0 = zs.getD i 0 := by simp [List.getD, hi']
      rw [e, ← Addr_add]
      exact this

set_option maxRecDepth 100000 in
/-- A slice of bytes that came in as an argument. -/
theorem open_bytes {b0 : Nat} {v : Value} {d : DataW H} {ps : List MemPlace} (hval : Value.okWide Tryd.prog w .any b0 22 v) (h : DataW.Trod enc Tryd.prog w base spare held 22 v d ps) :
    ∃ (a : Option Addr) (c : Nat) (ns : List Int), v = .slice a ns.length c ∧ Reads w a ns ∧ (a = none → c = 0) ∧ ns.length ≤ maxLen := by
  obtain ⟨a, len, cap, hv⟩ := okWide_slice (e := 5) Tryd.underlying22 hval
  subst hv
  obtain ⟨fuel, hf⟩ := h
  have e : (Value.slice a len cap).cells.toList = [Value.slice a len cap] := rfl
  rw [e] at hf
  obtain ⟨a', c', ns, hc, rest⟩ := trod_bytes hf
  simp only [List.cons.injEq, and_true] at hc
  exact ⟨a', c', ns, hc, rest⟩
end
end Go.Proofs.YtoboickdkednkaaDoor

/- The walk of laws.FnChanged. -/
namespace Go.Proofs.YtoboickdkednkaaDoor
open Go.RowKit

theorem pool7 {p : PoolA} (h4 : p.seats.length ≤ 4) (h : p.short 7) : p.short 1048576 := ⟨by omega, fun s hs x hx => by have := h.each s hs x hx; omega⟩
/-- A seat of an own row: its row, its page, its marks. -/
theorem own_seat {w : World} {lo hi : Nat} {a : Option Addr} {c : Nat} {ss : List SeatA} (h : OwnSts w lo hi a c ss) (k : Nat) (hk : k < ss.length) :
    ∃ g, a = some ⟨g, 0, none⟩ ∧ w.rangeAt g (k * 20 + 1) (ss.getD k zeroSt).page.cells ∧ w.cell? ⟨g, k * 20 + 18, none⟩ = some (.bool (ss.getD k zeroSt).dirty) ∧ w.cell? ⟨g, k * 20 + 19, none⟩ = some (.bool (ss.getD k zeroSt).hot) ∧ w.cell? ⟨g, k * 20, none⟩ = some (.int .i64 (ss.getD k zeroSt).no) := by
  obtain ⟨g, rfl⟩ : ∃ g, a = some ⟨g, 0, none⟩ := by
    rcases h.row.2 with ⟨_, h0⟩ | ⟨g, cap', cur, hv, _⟩
    · omega
    · simp only [Value.slice.injEq] at hv; exact ⟨g, hv.1⟩
  have r := (row_seat h.row rfl k hk).1
  refine ⟨g, rfl, ?_, r 18 _ rfl, r 19 _ rfl, r 0 _ rfl⟩
  rw [SeatA.cells_page] at r
  intro j v hv
  have hj : j < (ss.getD k zeroSt).page.cells.length := (List.getElem?_eq_some_iff.1 hv).1
  have := r (1 + j) v (by
    rw [Nat.add_comm 1 j, List.getElem?_cons_succ, List.getElem?_append_left hj]
    exact hv)
  rw [show k * 20 + 1 + j = k * 20 + (1 + j) by omega]
  exact this
theorem rd_seat {w : World} {a : Option Addr} {ss : List SeatA} (h : ReadsSts w a ss) (k : Nat) (hk : k < ss.length) : ReadsS w (ss.getD k zeroSt).ss := by
  obtain ⟨b, off, _, hh⟩ := h (by intro e; rw [e] at hk; simp at hk)
  exact (hh k hk).2
theorem cell_below {w x : World} {a : Addr} {v : Value} (hx : Below w.heap.size w x) (h : w.cell? a = some v) : x.cell? a = some v := (hx.cell (World.block_lt_of_cell? w a h)).trans h
theorem rng_below {w x : World} {b o : Nat} {cs : List Value} (hx : Below w.heap.size w x) (h : w.rangeAt b o cs) : x.rangeAt b o cs := fun j v hv => cell_below hx (h j v hv)

end Go.Proofs.YtoboickdkednkaaDoor

/- What a pool is behind a page that was brought into it in the place of another. -/
namespace Go.Proofs.YtoboickdkednkaaDoor
open Go.RowKit

set_option maxHeartbeats 1000000 in
/-- Who goes of three: its place, the hand behind it; the numbers stay; and it was not hot, or all were. -/
theorem victim3 (a b c : SeatV) (h : Nat) (hh : h < 3) : (victimV 4 [a, b, c] h).2.2 < 3 ∧ (victimV 4 [a, b, c] h).2.1 = ((victimV 4 [a, b, c] h).2.2 + 1) % 3 ∧ (victimV 4 [a, b, c] h).1.map (·.no) = [a.no, b.no, c.no] ∧ (victimV 4 [a, b, c] h).1.map (fun s => seatB s) = [seatB a, seatB b, seatB c] ∧ (victimV 4 [a, b, c] h).1.length = 3 ∧
    ((a.hot = true ∧ b.hot = true ∧ c.hot = true) ∨ (([a, b, c] : List SeatV).getD (victimV 4 [a, b, c] h).2.2 zeroStV).hot = false) := by
  obtain ⟨an, al, az, ad, ah⟩ := a
  obtain ⟨bn, bl, bs, bd, bh⟩ := b
  obtain ⟨cn, cl, cs, cd, ch⟩ := c
  match h, hh with
  | 0, _ => cases ah <;> cases bh <;> cases ch <;> simp [victimV, coldV, seatB]
  | 1, _ => cases ah <;> cases bh <;> cases ch <;> simp [victimV, coldV, seatB]
  | 2, _ => cases ah <;> cases bh <;> cases ch <;> simp [victimV, coldV, seatB]
theorem threeV_of {ss : List SeatV} (h : ss.length = 3) : ∃ a b c, ss = [a, b, c] := by
  match ss, h with
  | [a, b, c], _ => exact ⟨a, b, c, rfl⟩
theorem inB_iff {x l h : Int} : inB x l h = true ↔ l ≤ x ∧ x ≤ h := by simp [inB]
theorem fresh_parts {ss : List SeatV} {i : Nat} (hi : i < ss.length) (h : freshAt ss i = true) : seatB (ss.getD i zeroStV) = true ∧ ∀ k, k < i → (ss.getD k zeroStV).no ≠ (ss.getD i zeroStV).no := by
  simp only [freshAt, Bool.and_eq_true, decide_eq_true_eq] at h
  refine ⟨h.1, fun k hk e => ?_⟩
  have := fresh_dup hk hi e
  rw [freshAt, h.1, decide_eq_true h.2] at this
  cases this
theorem no_at {ss : List SeatV} {l : List Int} (h : ss.map (·.no) = l) (k : Nat) (hk : k < ss.length) : (ss.getD k zeroStV).no = l.getD k 0 := by
  rw [← h]
  simp [List.getD, hk]
/-- All that the law of a bring asks where another page went. -/
theorem brought_parts {p : PoolV} {no lsn : Int} {ss : List SlotV} {n : PoolV} {old : SeatV} (h : bringOf p no lsn ss = (n, old, true)) :
    okPool p = true ∧ p.seats.length = 3 ∧ ∃ (k : Nat) (v : PoolV), k < 3 ∧ victimOf p = (v, (k : Int)) ∧ seatedOf n.seats no = k ∧ n.seats.getD k zeroStV = ⟨no, lsn, ss, false, true⟩ ∧ seatedOf n.seats old.no = -1 ∧ okPool n = true ∧ n.seats.length = 3 ∧ (p.seats.getD k zeroStV).no = old.no ∧ v.hand = (((k + 1) % 3 : Nat) : Int) ∧ ((∀ j, j < 3 → (p.seats.getD j zeroStV).hot = true) ∨ (p.seats.getD k zeroStV).hot = false) := by
  have hm : mayBring p no lsn ss = true := by
    cases hm : mayBring p no lsn ss with
    | true => rfl
    | false => rw [bringOf, if_neg (by rw [hm]; decide)] at h; cases h
  rw [bringOf, if_pos hm] at h
  simp only [mayBring, Bool.and_eq_true, decide_eq_true_eq] at hm
  obtain ⟨hp, hno, hok, hse⟩ := hm
  obtain ⟨hl, hhand, hfr⟩ := okPool_iff hp
  have h3 : p.seats.length = 3 := by
    rw [bringV] at h
    split at h
    · simp at h
    · omega
  obtain ⟨a, b, c, habc⟩ := threeV_of h3
  have hh : p.hand.toNat < 3 := by rw [inB_iff] at hhand; omega
  obtain ⟨v1, v2, v3, v4, v5, v6⟩ := victim3 a b c p.hand.toNat hh
  rw [← habc] at v1 v2 v3 v4 v5 v6
  obtain ⟨us, k, hd, hv⟩ : ∃ us k hd, victimV 4 p.seats p.hand.toNat = (us, hd, k) := ⟨_, _, _, rfl⟩
  rw [bringV, if_neg (by omega), hv] at h
  rw [hv] at v1 v2 v3 v4 v5 v6
  simp only at h v1 v2 v3 v4 v5 v6
  have hn : n = ⟨us.set k ⟨no, lsn, ss, false, true⟩, hd⟩ := (Prod.mk.inj h).1.symm
  have hold : old = us.getD k zeroStV := (Prod.mk.inj (Prod.mk.inj h).2).1.symm
  have hpn : ∀ j, j < 3 → (us.getD j zeroStV).no = (p.seats.getD j zeroStV).no := fun j hj => by
    rw [no_at v3 j (by omega), habc]
    match j, hj with
    | 0, _ => rfl
    | 1, _ => rfl
    | 2, _ => rfl
  have hpb : ∀ j, j < 3 → seatB (us.getD j zeroStV) = seatB (p.seats.getD j zeroStV) := fun j hj => by
    have e := congrArg (fun l => l[j]?) v4
    simp only [List.getElem?_map] at e
    rw [List.getElem?_eq_getElem (by omega)] at e
    rw [habc]
    simp only [List.getD, List.getElem?_eq_getElem (show j < us.length by omega), Option.getD_some]
    match j, hj, e with
    | 0, _, e => simpa using e
    | 1, _, e => simpa using e
    | 2, _, e => simpa using e
  have hnot : ∀ j, j < 3 → (p.seats.getD j zeroStV).no ≠ no := fun j hj e => by
    rcases seated_cases p.seats no with ⟨i, _, _, _, h4⟩ | ⟨h1, _⟩
    · omega
    · exact h1 j (by omega) e
  have hdist : ∀ i j, i < 3 → j < 3 → (p.seats.getD i zeroStV).no = (p.seats.getD j zeroStV).no → i = j := fun i j hi hj e => by
    rcases Nat.lt_trichotomy i j with h | h | h
    · exact absurd e ((fresh_parts (by omega) (hfr j (by omega))).2 i h)
    · exact h
    · exact absurd e.symm ((fresh_parts (by omega) (hfr i (by omega))).2 j h)
  have hget : ∀ j, (us.set k ⟨no, lsn, ss, false, true⟩).getD j zeroStV = if j = k then ⟨no, lsn, ss, false, true⟩ else us.getD j zeroStV := fun j => getD_setV us k j _ (by omega)
  have hnl : n.seats.length = 3 := by rw [hn]; simp [v5]
  have hgn : ∀ j, n.seats.getD j zeroStV = if j = k then ⟨no, lsn, ss, false, true⟩ else us.getD j zeroStV := fun j => by rw [hn]; exact hget j
  have hnd : ∀ i j, i < 3 → j < 3 → (n.seats.getD i zeroStV).no = (n.seats.getD j zeroStV).no → i = j := fun i j hi hj e => by
    rw [hgn i, hgn j] at e
    by_cases h1 : i = k <;> by_cases h2 : j = k
    · omega
    · rw [if_pos h1, if_neg h2, hpn j hj] at e; exact absurd e.symm (hnot j hj)
    · rw [if_neg h1, if_pos h2, hpn i hi] at e; exact absurd e (hnot i hi)
    · rw [if_neg h1, if_neg h2, hpn i hi, hpn j hj] at e; exact hdist i j hi hj e
  refine ⟨hp, h3, k, ⟨us, hd⟩, v1, ?_, ?_, ?_, ?_, ?_, hnl, ?_, ?_, ?_⟩
  · rw [victimOf, if_pos ⟨hp, h3⟩, hv]
  · refine seated_at (by omega) (by rw [hgn, if_pos rfl]) (fun j hj e => ?_)
    rw [hgn, if_neg (by omega), hpn j (by omega)] at e
    exact hnot j (by omega) e
  · rw [hgn, if_pos rfl]
  · refine seated_none (fun j hj e => ?_)
    rw [hnl] at hj
    rw [hold, hpn k v1] at e
    rw [hgn] at e
    by_cases h1 : j = k
    · rw [if_pos h1] at e; exact hnot k v1 e.symm
    · rw [if_neg h1, hpn j hj] at e; exact h1 (hdist j k hj v1 e)
  · refine okPool_yes (by omega) (by rw [hn]; rw [inB_iff]; simp only; omega) (fun j hj => ?_)
    rw [hnl] at hj
    refine fresh_yes (by omega) ?_ (fun i hi e => ?_)
    · rw [hgn]
      by_cases h1 : j = k
      · rw [if_pos h1]; simp [seatB, hno, hok]
      · rw [if_neg h1, hpb j hj]; exact (fresh_parts (by omega) (hfr j (by omega))).1
    · have := hnd i j (by omega) hj e; omega
  · rw [hold, hpn k v1]
  · show ((hd : Nat) : Int) = _; rw [v2]
  · rcases v6 with ⟨h1, h2, h3⟩ | h1
    · refine .inl (fun j hj => ?_)
      rw [habc]
      match j, hj with
      | 0, _ => exact h1
      | 1, _ => exact h2
      | 2, _ => exact h3
    · exact .inr h1
/-- And where none went. -/
theorem stayed_parts {p : PoolV} {no lsn : Int} {ss : List SlotV} {n : PoolV} {old : SeatV} (h : bringOf p no lsn ss = (n, old, false)) : p.seats.length ≤ n.seats.length := by
  rw [bringOf] at h
  split at h
  · rw [bringV] at h
    split at h
    · have hn := (Prod.mk.inj h).1.symm; rw [hn]; simp
    · simp at h
  · have hn := (Prod.mk.inj h).1.symm; rw [hn]; exact Nat.le_refl _
theorem victim_not_ok {p : PoolV} (h : okPool p = false) : victimOf p = (p, -1) := by rw [victimOf, if_neg (by simp [h])]
end Go.Proofs.YtoboickdkednkaaDoor

/- The walks of spec.Victim and impl.Victim. -/
namespace Go.Proofs.YtoboickdkednkaaDoor
open Go.RowKit

/-- What Victim answers. -/
def VictimAns (p : PoolA) (w : World) (e : Ending) (w' : World) : Prop :=
  ∃ (t : PoolA) (k : Int), e = .returned (.tuple #[.agg t.cells.toArray, .int .i64 k]) ∧ Hid (victimOf p.v = (t.v, k)) ∧ t.own w' w.heap.size w'.heap.size ∧ Below w.heap.size w w'
theorem victimOf_no {p : PoolV} (h : ¬ (okPool p = true ∧ p.seats.length = 3)) : victimOf p = (p, -1) := by rw [victimOf, if_neg h]
theorem victimOf_yes {p : PoolV} {h : Nat} (h1 : okPool p = true) (h2 : p.seats.length = 3) (hh : p.hand = h) : victimOf p = (PoolV.mk (victimV 4 p.seats h).1 ((victimV 4 p.seats h).2.1 : Int), ((victimV 4 p.seats h).2.2 : Int)) := by
  rw [victimOf, if_pos ⟨h1, h2⟩, hh]
  rfl
theorem okPool_handNat {p : PoolV} (h : okPool p = true) : ∃ n : Nat, p.hand = n ∧ n < 3 := by
  have h2 := (okPool_iff h).2.1
  simp only [inB, decide_eq_true_eq] at h2
  exact ⟨p.hand.toNat, by omega, by omega⟩

/-- The hot ones of a row, counted in memory. -/
def hotAt (w : World) (g k : Nat) : Nat := match w.cell? ⟨g, k * 20 + 19, none⟩ with
  | some (.bool true) => 1
  | _ => 0
theorem three_of {α : Type} {ts : List α} (h : ts.length = 3) : ∃ x y z, ts = [x, y, z] := by
  match ts, h with
  | [x, y, z], _ => exact ⟨x, y, z, rfl⟩
def hotCells (g : Nat) (w : World) : Nat := hotAt w g 0 + hotAt w g 1 + hotAt w g 2
theorem hotAt_of {w : World} {lo hi g c : Nat} {ts : List SeatA} (h : OwnSts w lo hi (some ⟨g, 0, none⟩) c ts) (k : Nat) (hk : k < ts.length) : hotAt w g k = if (ts.getD k zeroSt).hot = true then 1 else 0 := by
  have hx : w.cell? ⟨g, k * 20 + 19, none⟩ = some (.bool (ts.getD k zeroSt).hot) := (row_seat h.row rfl k hk).1 19 _ rfl
  rw [hotAt, hx]
  cases (ts.getD k zeroSt).hot <;> rfl
theorem hotCells_of {w : World} {lo hi g c : Nat} {ts : List SeatA} (h : OwnSts w lo hi (some ⟨g, 0, none⟩) c ts) (hl : ts.length = 3) : hotCells g w = hots (ts.map SeatA.v) := by
  rw [hotCells, hotAt_of h 0 (by omega), hotAt_of h 1 (by omega), hotAt_of h 2 (by omega)]
  obtain ⟨x, y, z, rfl⟩ := three_of hl
  simp only [List.getD_cons_zero, List.getD_cons_succ, hots, List.map_cons, List.map_nil, List.filter_cons, List.filter_nil]
  have e : ∀ s : SeatA, s.v.hot = s.hot := fun _ => rfl
  rw [e, e, e]
  cases x.hot <;> cases y.hot <;> cases z.hot <;> rfl
def victimMeasure (a : Act) (w : World) : Nat :=
  match a.tmps.getD 4 undef with
  | .pointer (some ad) => match w.cell? ⟨ad.block, 0, none⟩ with
    | some (.slice (some b) _ _) => hotCells b.block w
    | _ => 0
  | _ => 0
/-- How things stand at the label. -/
structure VicSt (w : World) (lo B g c : Nat) (ts : List SeatA) (hand : Int) (w' : World) : Prop where
  out : Box w' B [.slice (some ⟨g, 0, none⟩) ts.length c, .int .i64 hand] 26
  res : Box w' (w.heap.size + 1) [.slice none 0 0, .int .i64 0] 26
  own : OwnSts w' lo B (some ⟨g, 0, none⟩) c ts
  lo1 : w.heap.size + 1 < lo
  loB : lo ≤ B
  len : ts.length = 3
  bel : Below w.heap.size w w'
theorem VicSt.cold {w wr : World} {lo B g c : Nat} {ts : List SeatA} {hand : Int} (st : VicSt w lo B g c ts hand wr) (k : Nat) (hk : k < 3) :
    ∃ W1, Hid (wr.setCell ⟨g, k * 20 + 19, none⟩ (.bool false) = W1) ∧ VicSt w lo B g c (ts.set k (ts.getD k zeroSt).cold) hand W1 := by
  have hkt : k < ts.length := by rw [st.len]; exact hk
  have hgl := st.own.blocks_lt g (by simp [blocksSts, Value.ownBlock])
  have hkl : (ts.take k).length = k := by rw [List.length_take]; omega
  have osp := st.own
  rw [seatD_split ts k hkt] at osp
  obtain ⟨o4, t4⟩ := osp.cellSet (z' := (ts.getD k zeroSt).cold) 19 (.bool false) (by omega) rfl rfl
  rw [hkl, ← seat_set ts k _ hkt] at o4
  rw [hkl] at t4
  have h1 := st.lo1
  have h2 := st.loB
  refine ⟨_, rfl, ?_, st.res.touch t4 (by simp; omega), o4, h1, h2, by simp [st.len], st.bel.trans ((t4.within (lo := lo) (hi := B) (fun j hj => by obtain rfl := List.mem_singleton.1 hj; exact hgl)).below (by omega) (by have := st.bel.size; omega))⟩
  have := st.out.touch t4 (by simp; omega)
  rw [List.length_set]
  exact this
theorem placeBehind_any (k : Nat) (hk : k < 3) (w : World) : Calls Tryd.prog 32 #[.int .i64 (k : Int)] w fun e w' => e = .returned (.int .i64 (((k + 1) % 3 : Nat) : Int)) ∧ w' = w := by
  have HM : Hid (((k : Int) + 1) % 3 = (((k + 1) % 3 : Nat) : Int)) := by rw [Hid]; omega
  go_enter Tryd.func32, Tryd.ntmps32
  go_wp2
  go_ret
  exact ⟨ret_int (by first | exact HM.out | omega), rfl⟩

set_option maxHeartbeats 4000000 in
set_option maxRecDepth 100000 in
theorem implVictim_any (p : PoolA) (w : World) (hg : ErrT w) (hr : p.reads w) (hl : p.short 1048576) :
    Calls Tryd.prog 9 #[.agg p.cells.toArray] w fun e w' => VictimAns p w e w' := by
  obtain ⟨W, hW, b0, b1, hbW, hsW⟩ := boxes2 w [.slice p.a p.seats.length p.c, .int .i64 p.hand] [.slice none 0 0, .int .i64 0] 26 26
  have hs0 : w.heap.size + 1 < W.heap.size := by omega
  have p0 := b0.cell 0 _ rfl
  have p1 := b0.cell 1 _ rfl
  have C := copyPool_any p W (PoolA.reads.below hr hbW) hl
  simp only [PoolA.cells] at *
  clear hsW
  go_enter Tryd.func9, Tryd.ntmps9
  go_wp2
  refine wp_scope_jumps 0 (fun a' w' => ∃ (lo B g c k n : Nat) (ts : List SeatA) (hand : Int) (x0 x3 x6 x7 x8 x9 x10 x11 x12 x13 x14 x15 x16 x17 x18 x19 x20 x21 x22 x23 x24 x25 x26 x27 x28 x29 x30 x31 x32 x33 x34 x35 x36 x37 : Value), a' = { tmps := #[x0, .pointer (some ⟨w.heap.size, 0, none⟩), .pointer (some ⟨w.heap.size + 1, 0, none⟩), x3, .pointer (some ⟨B, 0, none⟩), .int .i64 (k : Int), x6, x7, x8, x9, x10, x11, x12, x13, x14, x15, x16, x17, x18, x19, x20, x21, x22, x23, x24, x25, x26, x27, x28, x29, x30, x31, x32, x33, x34, x35, x36, x37], defers := [] } ∧ VicSt w lo B g c ts hand w' ∧ k < 3 ∧ Hid (victimOf p.v = (PoolV.mk (victimV n (ts.map SeatA.v) k).1 ((victimV n (ts.map SeatA.v) k).2.1 : Int), ((victimV n (ts.map SeatA.v) k).2.2 : Int))) ∧ hots (ts.map SeatA.v) < n) victimMeasure rfl ?_ ?_
  · go_upto_region 1 with fail
    rw [hW.out]
    clear hW
    go_wp2_with fail
    refine C.mono ?_
    clear C p0 p1
    rintro e w1 ⟨t, rfl, hv, ho, hb1⟩
    have hs1 := hb1.size
    have b01 := b0.below hb1 b0.lt
    have b11 := b1.below hb1 b1.lt
    obtain ⟨W2, hW2, b2, hb2, hs2⟩ := boxes1 w1 [.slice t.a t.seats.length t.c, .int .i64 t.hand] 26
    have b02 := b01.below hb2 b01.lt
    have b12 := b11.below hb2 b11.lt
    have o2 := ho.below hb2
    have n2 : Below w.heap.size w W2 := (hbW.trans (hb1.mono (by omega))).trans (hb2.mono (by omega))
    have hs2' := b2.lt
    clear b0 b1 b01 b11 ho hb1 hb2 hs2 hbW
    go_upto_region 2 with fail
    rw [hW2.out]
    clear hW2
    have p0 := b02.cell 0 _ rfl
    have p1 := b02.cell 1 _ rfl
    have HV : Hid (t.v = p.v) := hv.out
    clear hv
    have C := implPoolOk_any p W2 (hg.keep n2) (PoolA.reads.below hr n2) (PoolA.short_wide hl)
    simp only [PoolA.cells] at C
    go_wp2_with fail
    refine C.mono ?_
    clear C p0 p1
    rintro e w3 ⟨rfl, hb3⟩
    have hs3 := hb3.size
    have b03 := b02.below hb3 b02.lt
    have b13 := b12.below hb3 b12.lt
    have b23 := b2.below hb3 b2.lt
    have o3 := o2.below hb3
    have n3 : Below w.heap.size w w3 := n2.trans (hb3.mono n2.size)
    have p0 := b03.cell 0 _ rfl
    have p1 := b03.cell 1 _ rfl
    clear b02 b12 b2 o2 n2 hb3
    by_cases hyes : okPool p.v = true ∧ p.seats.length = 3
    · obtain ⟨h1, h2⟩ := hyes
      obtain ⟨k, hh, hk3⟩ := okPool_handNat h1
      have HVO := victimOf_yes (h := k) h1 (by simpa [PoolA.v] using h2) hh
      have hne : ((p.seats.length : Int) != 3) = false := by rw [h2]; rfl
      rw [h1]
      clear h1
      have hph : p.hand = (k : Int) := hh
      rw [hph] at p1
      obtain ⟨ts, hand, a, c⟩ := t
      simp only [PoolA.own] at *
      have htl : ts.length = 3 := by
        have e := congrArg (fun v => v.seats.length) HV.out
        simp only [PoolA.v, List.length_map] at e
        omega
      obtain ⟨g, rfl⟩ : ∃ g, a = some ⟨g, 0, none⟩ := by
        rcases o3.row.2 with ⟨_, h0⟩ | ⟨g, cap', cur, hv, _⟩
        · omega
        · simp only [Value.slice.injEq] at hv; exact ⟨g, hv.1⟩
      have st : VicSt w W.heap.size w1.heap.size g c ts hand w3 := ⟨b23, b13, o3, hs0, hs1, htl, n3⟩
      have eps : p.v.seats = ts.map SeatA.v := by rw [← HV.out]; rfl
      rw [eps] at HVO
      have hvv0 : Hid (victimOf p.v = (PoolV.mk (victimV 4 (ts.map SeatA.v) k).1 ((victimV 4 (ts.map SeatA.v) k).2.1 : Int), ((victimV 4 (ts.map SeatA.v) k).2.2 : Int))) := HVO
      obtain ⟨n, hvv, hhot⟩ : ∃ n, Hid (victimOf p.v = (PoolV.mk (victimV n (ts.map SeatA.v) k).1 ((victimV n (ts.map SeatA.v) k).2.1 : Int), ((victimV n (ts.map SeatA.v) k).2.2 : Int))) ∧ hots (ts.map SeatA.v) < n := ⟨4, hvv0, by have := hots_le (ts.map SeatA.v); rw [List.length_map] at this; omega⟩
      obtain ⟨lo, hlo⟩ : ∃ lo, Hid (W.heap.size = lo) := ⟨_, rfl⟩
      obtain ⟨B, hB⟩ : ∃ B, Hid (w1.heap.size = B) := ⟨_, rfl⟩
      rw [hlo.out, hB.out] at st
      have hs2n : Hid (p.seats.length = 3) := h2
      clear hvv0 HVO eps b23 b13 o3 htl n3 b03 hh h2 hph hlo hs0 hs1 hs2' hs3 HV
      rw [hB.out]
      clear hB
      generalize p.hand = hp at *
      obtain ⟨wr, hwr⟩ : ∃ wr, Hid (w3 = wr) := ⟨_, rfl⟩
      rw [hwr.out] at st p0 p1 ⊢
      clear hwr w3
      go_wp2_with fail
      go_step3
      clear p0 p1
      have hkt : k < ts.length := by rw [st.len]; exact hk3
      have x0 := st.out.cell 0 _ rfl
      have x19 : wr.cell? ⟨g, k * 20 + 19, none⟩ = some (.bool (ts.getD k zeroSt).hot) := (row_seat st.own.row rfl k hkt).1 19 _ rfl
      have f19 := st.own.row.frozenAt (k * 20 + 19)
      have hkk : (k : Int) < (ts.length : Int) := by omega
      have hk0 : (0 : Int) ≤ (k : Int) := by omega
      obtain ⟨m, rfl⟩ : ∃ m, n = m + 1 := ⟨n - 1, by omega⟩
      have hlm : ts.length ≤ 3 := by rw [st.len]; omega
      rw [victim_step] at hvv
      by_cases hot : (ts.getD k zeroSt).hot = true
      ·
        rw [if_pos hot] at hvv
        rw [hot] at x19
        obtain ⟨W1, hW1, st1⟩ := st.cold k hk3
        have C := placeBehind_any k hk3 W1
        have HV1 : Hid (victimOf p.v = (PoolV.mk (victimV m ((ts.set k (ts.getD k zeroSt).cold).map SeatA.v) ((k + 1) % 3)).1 ((victimV m ((ts.set k (ts.getD k zeroSt).cold).map SeatA.v) ((k + 1) % 3)).2.1 : Int), ((victimV m ((ts.set k (ts.getD k zeroSt).cold).map SeatA.v) ((k + 1) % 3)).2.2 : Int))) := by
          rw [List.map_set, cold_v]
          exact hvv
        have HH1 : hots ((ts.set k (ts.getD k zeroSt).cold).map SeatA.v) + 1 = hots (ts.map SeatA.v) := by
          have h := hots_set (ts.map SeatA.v) k (by simpa using hkt) (by rw [seatV_at]; exact hot)
          rw [seatV_at] at h
          rw [List.map_set, cold_v]
          exact h
        have HMS : Hid (hotCells g W1 < hotCells g wr) := by rw [Hid, hotCells_of st1.own st1.len, hotCells_of st.own st.len]; omega
        have HK : Hid ((k + 1) % 3 < 3) := Nat.mod_lt _ (by omega)
        have HCW : Hid (W1.cell? ⟨B, 0, none⟩ = some (.slice (some ⟨g, 0, none⟩) ts.length c) ∧ wr.cell? ⟨B, 0, none⟩ = some (.slice (some ⟨g, 0, none⟩) ts.length c)) := ⟨by have := st1.out.cell 0 _ rfl; rw [List.length_set] at this; exact this, x0⟩
        have HHM : Hid (hots ((ts.set k (ts.getD k zeroSt).cold).map SeatA.v) < m) := by rw [Hid]; omega
        clear hvv hot HH1 hhot st
        generalize hts : ts.set k (ts.getD k zeroSt).cold = ts1 at *
        clear hts
        generalize (k + 1) % 3 = k1 at *
        go_wp2_with fail
        rw [hW1.out]
        refine C.mono ?_
        clear C x0 x19 f19 hW1
        rintro e u ⟨rfl, hu⟩
        rw [hu]
        clear hu u
        go_wp2
        go_step3
        exact ⟨rfl, lo, B, g, c, k1, m, ts1, hand, _, _, _, _, _, _, _, _, _, _, _, _, _, _, _, _, _, _, _, _, _, _, _, _, _, _, _, _, _, _, _, _, _, _, rfl, st1, HK.out, HV1, HHM.out⟩
      ·
        rw [if_neg hot] at hvv
        have hotf : (ts.getD k zeroSt).hot = false := by simpa using hot
        rw [hotf] at x19
        have C := placeBehind_any k hk3 wr
        have HFIN : Hid (victimOf p.v = (PoolA.v ⟨ts, (((k + 1) % 3 : Nat) : Int), some ⟨g, 0, none⟩, c⟩, (k : Int))) := hvv.out
        have y1 := st.out.cell 1 _ rfl
        have yf1 := st.out.frozen 1
        have hl1 := st.lo1
        have hl2 := st.loB
        obtain ⟨W1, hW1, bo1, hw1, hs1⟩ := box_set st.out 1 (.int .i64 (((k + 1) % 3 : Nat) : Int))
        simp only [List.set] at bo1
        have br1 := st.res.within hw1 (by omega)
        have ow1 := st.own.within hw1 (.inl (Nat.le_refl _))
        have n1 : Below w.heap.size w W1 := st.bel.trans (hw1.below (by omega) (by have := st.bel.size; omega))
        have e0 := bo1.cell 0 _ rfl
        have e1 := bo1.cell 1 _ rfl
        have m0 := br1.cell 0 _ rfl
        have m1 := br1.cell 1 _ rfl
        have mf0 := br1.frozen 0
        have mf1 := br1.frozen 1
        obtain ⟨WF, hWF, bF, hwF, hsF⟩ := box2_fill br1 (.slice (some ⟨g, 0, none⟩) ts.length c) (.int .i64 (((k + 1) % 3 : Nat) : Int))
        have q0 := bF.cell 0 _ rfl
        have q1 := bF.cell 1 _ rfl
        have hBW := bo1.lt
        have hoF := (ow1.within hwF (.inr (by omega))).widen (show w.heap.size ≤ lo by omega) (show B ≤ WF.heap.size by omega) (Nat.le_refl _)
        have hbF : Below w.heap.size w WF := n1.trans (hwF.below (by omega) (by have := n1.size; omega))
        clear hvv hot hotf hhot st bo1 br1 ow1 n1 hwF hsF bF hw1 hs1
        generalize (((k + 1) % 3 : Nat) : Int) = k1 at *
        go_wp2_with fail
        refine C.mono ?_
        clear C x0 x19 f19
        rintro e u ⟨rfl, hu⟩
        rw [hu]
        clear hu u
        go_upto_region 9 with fail
        rw [hW1.out]
        clear hW1
        go_wp2_with fail
        rw [hWF.out]
        simp only [Exit.jump]
        exact bodyPost_ret (v := .tuple #[.agg #[.slice (some ⟨g, 0, none⟩) ts.length c, .int .i64 k1], .int .i64 (k : Int)]) (by simp [results, Tryd.results9, go_sem, q0, q1]) rfl ⟨⟨ts, k1, some ⟨g, 0, none⟩, c⟩, k, rfl, HFIN, hoF, hbF⟩
    · have HVK : Hid (victimOf p.v = (t.v, -1)) := by
        rw [Hid, victimOf_no (by simpa [PoolA.v] using hyes), HV.out]
      cases h1 : okPool p.v with
      | true =>
        have hne : ((p.seats.length : Int) != 3) = true := by
          have : ¬ p.seats.length = 3 := fun h => hyes ⟨h1, h⟩
          simp only [bne_iff_ne, ne_eq]
          omega
        clear hyes HV h1
        have e0 := b23.cell 0 _ rfl
        have e1 := b23.cell 1 _ rfl
        have m0 := b13.cell 0 _ rfl
        have m1 := b13.cell 1 _ rfl
        have mf0 := b13.frozen 0
        have mf1 := b13.frozen 1
        obtain ⟨WF, hWF, bF, hwF, hsF⟩ := box2_fill b13 (.slice t.a t.seats.length t.c) (.int .i64 t.hand)
        have q0 := bF.cell 0 _ rfl
        have q1 := bF.cell 1 _ rfl
        have hoF := (PoolA.own.within o3 hwF (.inr (by omega))).widen (show w.heap.size ≤ W.heap.size by omega) (show w1.heap.size ≤ WF.heap.size by omega) (Nat.le_refl _)
        have hbF : Below w.heap.size w WF := n3.trans (hwF.below (by omega) (by omega))
        clear hwF hsF bF o3 b13 b23
        go_wp2_with fail
        rw [hWF.out]
        simp only [Exit.jump]
        exact bodyPost_ret (v := .tuple #[.agg #[.slice t.a t.seats.length t.c, .int .i64 t.hand], .int .i64 (-1)]) (by simp [results, Tryd.results9, go_sem, q0, q1]) rfl ⟨t, -1, rfl, HVK, hoF, hbF⟩
      | false =>
        clear hyes HV h1
        have e0 := b23.cell 0 _ rfl
        have e1 := b23.cell 1 _ rfl
        have m0 := b13.cell 0 _ rfl
        have m1 := b13.cell 1 _ rfl
        have mf0 := b13.frozen 0
        have mf1 := b13.frozen 1
        obtain ⟨WF, hWF, bF, hwF, hsF⟩ := box2_fill b13 (.slice t.a t.seats.length t.c) (.int .i64 t.hand)
        have q0 := bF.cell 0 _ rfl
        have q1 := bF.cell 1 _ rfl
        have hoF := (PoolA.own.within o3 hwF (.inr (by omega))).widen (show w.heap.size ≤ W.heap.size by omega) (show w1.heap.size ≤ WF.heap.size by omega) (Nat.le_refl _)
        have hbF : Below w.heap.size w WF := n3.trans (hwF.below (by omega) (by omega))
        clear hwF hsF bF o3 b13 b23
        go_wp2_with fail
        rw [hWF.out]
        simp only [Exit.jump]
        exact bodyPost_ret (v := .tuple #[.agg #[.slice t.a t.seats.length t.c, .int .i64 t.hand], .int .i64 (-1)]) (by simp [results, Tryd.results9, go_sem, q0, q1]) rfl ⟨t, -1, rfl, HVK, hoF, hbF⟩
  · clear C hW b0 b1 p0 p1 hr hl hg hbW hs0
    rintro a' wr ⟨lo, B, g, c, k, n, ts, hand, z0, x3, x6, x7, x8, x9, x10, x11, x12, x13, x14, x15, x16, x17, x18, z19, x20, x21, x22, x23, x24, x25, x26, x27, x28, x29, x30, x31, x32, x33, x34, x35, x36, x37, rfl, st, hk3, hvv, hhot⟩
    have hkt : k < ts.length := by rw [st.len]; exact hk3
    have x0 := st.out.cell 0 _ rfl
    have x19 : wr.cell? ⟨g, k * 20 + 19, none⟩ = some (.bool (ts.getD k zeroSt).hot) := (row_seat st.own.row rfl k hkt).1 19 _ rfl
    have f19 := st.own.row.frozenAt (k * 20 + 19)
    have hkk : (k : Int) < (ts.length : Int) := by omega
    have hk0 : (0 : Int) ≤ (k : Int) := by omega
    obtain ⟨m, rfl⟩ : ∃ m, n = m + 1 := ⟨n - 1, by omega⟩
    have hlm : ts.length ≤ 3 := by rw [st.len]; omega
    rw [victim_step] at hvv
    by_cases hot : (ts.getD k zeroSt).hot = true
    ·
      rw [if_pos hot] at hvv
      rw [hot] at x19
      obtain ⟨W1, hW1, st1⟩ := st.cold k hk3
      have C := placeBehind_any k hk3 W1
      have HV1 : Hid (victimOf p.v = (PoolV.mk (victimV m ((ts.set k (ts.getD k zeroSt).cold).map SeatA.v) ((k + 1) % 3)).1 ((victimV m ((ts.set k (ts.getD k zeroSt).cold).map SeatA.v) ((k + 1) % 3)).2.1 : Int), ((victimV m ((ts.set k (ts.getD k zeroSt).cold).map SeatA.v) ((k + 1) % 3)).2.2 : Int))) := by
        rw [List.map_set, cold_v]
        exact hvv
      have HH1 : hots ((ts.set k (ts.getD k zeroSt).cold).map SeatA.v) + 1 = hots (ts.map SeatA.v) := by
        have h := hots_set (ts.map SeatA.v) k (by simpa using hkt) (by rw [seatV_at]; exact hot)
        rw [seatV_at] at h
        rw [List.map_set, cold_v]
        exact h
      have HMS : Hid (hotCells g W1 < hotCells g wr) := by rw [Hid, hotCells_of st1.own st1.len, hotCells_of st.own st.len]; omega
      have HK : Hid ((k + 1) % 3 < 3) := Nat.mod_lt _ (by omega)
      have HCW : Hid (W1.cell? ⟨B, 0, none⟩ = some (.slice (some ⟨g, 0, none⟩) ts.length c) ∧ wr.cell? ⟨B, 0, none⟩ = some (.slice (some ⟨g, 0, none⟩) ts.length c)) := ⟨by have := st1.out.cell 0 _ rfl; rw [List.length_set] at this; exact this, x0⟩
      have HHM : Hid (hots ((ts.set k (ts.getD k zeroSt).cold).map SeatA.v) < m) := by rw [Hid]; omega
      clear hvv hot HH1 hhot st
      generalize hts : ts.set k (ts.getD k zeroSt).cold = ts1 at *
      clear hts
      generalize (k + 1) % 3 = k1 at *
      go_wp2_with fail
      rw [hW1.out]
      refine C.mono ?_
      clear C x0 x19 f19 hW1
      rintro e u ⟨rfl, hu⟩
      rw [hu]
      clear hu u
      go_wp2
      go_step3
      refine ⟨rfl, ⟨lo, B, g, c, k1, m, ts1, hand, _, _, _, _, _, _, _, _, _, _, _, _, _, _, _, _, _, _, _, _, _, _, _, _, _, _, _, _, _, _, _, _, _, _, rfl, st1, HK.out, HV1, HHM.out⟩, ?_⟩
      have h1 := HMS.out
      have e1 := HCW.out.1
      have e2 := HCW.out.2
      simp only [victimMeasure]
      simpa [e1, e2] using h1
    ·
      rw [if_neg hot] at hvv
      have hotf : (ts.getD k zeroSt).hot = false := by simpa using hot
      rw [hotf] at x19
      have C := placeBehind_any k hk3 wr
      have HFIN : Hid (victimOf p.v = (PoolA.v ⟨ts, (((k + 1) % 3 : Nat) : Int), some ⟨g, 0, none⟩, c⟩, (k : Int))) := hvv.out
      have y1 := st.out.cell 1 _ rfl
      have yf1 := st.out.frozen 1
      have hl1 := st.lo1
      have hl2 := st.loB
      obtain ⟨W1, hW1, bo1, hw1, hs1⟩ := box_set st.out 1 (.int .i64 (((k + 1) % 3 : Nat) : Int))
      simp only [List.set] at bo1
      have br1 := st.res.within hw1 (by omega)
      have ow1 := st.own.within hw1 (.inl (Nat.le_refl _))
      have n1 : Below w.heap.size w W1 := st.bel.trans (hw1.below (by omega) (by have := st.bel.size; omega))
      have e0 := bo1.cell 0 _ rfl
      have e1 := bo1.cell 1 _ rfl
      have m0 := br1.cell 0 _ rfl
      have m1 := br1.cell 1 _ rfl
      have mf0 := br1.frozen 0
      have mf1 := br1.frozen 1
      obtain ⟨WF, hWF, bF, hwF, hsF⟩ := box2_fill br1 (.slice (some ⟨g, 0, none⟩) ts.length c) (.int .i64 (((k + 1) % 3 : Nat) : Int))
      have q0 := bF.cell 0 _ rfl
      have q1 := bF.cell 1 _ rfl
      have hBW := bo1.lt
      have hoF := (ow1.within hwF (.inr (by omega))).widen (show w.heap.size ≤ lo by omega) (show B ≤ WF.heap.size by omega) (Nat.le_refl _)
      have hbF : Below w.heap.size w WF := n1.trans (hwF.below (by omega) (by have := n1.size; omega))
      clear hvv hot hotf hhot st bo1 br1 ow1 n1 hwF hsF bF hw1 hs1
      generalize (((k + 1) % 3 : Nat) : Int) = k1 at *
      go_wp2_with fail
      refine C.mono ?_
      clear C x0 x19 f19
      rintro e u ⟨rfl, hu⟩
      rw [hu]
      clear hu u
      go_upto_region 9 with fail
      rw [hW1.out]
      clear hW1
      go_wp2_with fail
      rw [hWF.out]
      simp only [Exit.jump]
      exact bodyPost_ret (v := .tuple #[.agg #[.slice (some ⟨g, 0, none⟩) ts.length c, .int .i64 k1], .int .i64 (k : Int)]) (by simp [results, Tryd.results9, go_sem, q0, q1]) rfl ⟨⟨ts, k1, some ⟨g, 0, none⟩, c⟩, k, rfl, HFIN, hoF, hbF⟩
end Go.Proofs.YtoboickdkednkaaDoor
