/- Several texts in one, in their order. -/
import Derived.Test.YtekljhabjkmhpaaDoorPFnLockedx6
import Derived.Test.YtekljhabjkmhpaaDoorPFnLockedx7
/- The walks of impl.grantOk, placeOf, isAmong, bars, goesWithOthers; spec.l9Grant. -/
namespace Go.Proofs.YtekljhabjkmhpaaDoor
open Go.RowKit

def grantB (g : GrantV) : Bool := inB g.tx 1 99 && (inB g.res 0 99 && modeB g.mode)
def atB (tx res : Int) (g : GrantV) : Bool := g.tx == tx && g.res == res
def barsB (g o : GrantV) : Bool := o.res == g.res && (o.tx != g.tx && !goesB g.mode o.mode)

set_option maxHeartbeats 400000 in
set_option maxRecDepth 100000 in
theorem placeOf_any (a : Option Addr) (c : Nat) (ls : List GrantV) (tx res : Int) (w : World) (hr : ReadsG w a ls) (hl : ls.length ≤ 1099511627776) :
    Calls Tryd.prog 45 #[.slice a ls.length c, .int .i64 tx, .int .i64 res] w fun e w' => e = .returned (.int .i64 (placeZ (atB tx res) ls)) ∧ Below w.heap.size w w' := by
  rcases hr.cases with rfl | ⟨b, off, rfl, hpos, hcell⟩
  · go_enter Tryd.func45, Tryd.ntmps45
    go_wp2
    refine wp_loop_rounds 1 ?_
    rw [rounds_succ]
    go_wp2
    go_ret
    exact ⟨rfl, Below.refl _ _⟩
  · go_enter Tryd.func45, Tryd.ntmps45
    go_wp2
    go_loopw [11] (fun i wr => ∃ k : Nat, k ≤ ls.length ∧ i = .int .i64 k ∧ (ls.take k).any (atB tx res) = false ∧ Below w.heap.size w wr) (fun i _ => ls.length - (intOf i).toNat)
    case atStart => exact ⟨0, Nat.zero_le _, rfl, rfl, Below.refl _ _⟩
    case round =>
      obtain ⟨k, hk, rfl, hany, hbl⟩ := hrel
      by_cases hlt : k < ls.length
      · obtain ⟨c0, c1, c2⟩ := hcell k hlt
        have d0 : wr.cell? ⟨b, off + k * 3, none⟩ = _ := (hbl.cell (block_lt c0)).trans c0
        have d1 : wr.cell? ⟨b, off + k * 3 + 1, none⟩ = _ := (hbl.cell (block_lt c1)).trans c1
        have d2 : wr.cell? ⟨b, off + k * 3 + 2, none⟩ = _ := (hbl.cell (block_lt c2)).trans c2
        clear c0 c1 c2
        have HN : Hid (atB tx res (ls.getD k zeroG) = false → (ls.take (k + 1)).any (atB tx res) = false) := any_step hlt hany
        have HH : Hid (atB tx res (ls.getD k zeroG) = true → placeZ (atB tx res) ls = k) := placeZ_hit hlt hany
        clear hcell hany
        generalize ls.getD k zeroG = z at *
        have hB : ∀ o, Below w.heap.size w (wr.alloc o) := fun o => hbl.alloc hbl.size o
        clear hbl
        by_cases h1 : z.tx = tx
        · by_cases h2 : z.res = res
          · have HR : Hid _ := HH.out (by simp [atB, h1, h2])
            go_wp2
            go_ret
            exact ⟨ret_int HR.out.symm, hB _⟩
          · have HR : Hid _ := HN.out (by simp [atB, h1, h2])
            go_wp2
            go_roundw
            case rel => exact ⟨k + 1, by omega, by go_num, HR.out, hB _⟩
            case measure => simp [intOf]; omega
        · have HR : Hid _ := HN.out (by simp [atB, h1])
          go_wp2
          go_roundw
          case rel => exact ⟨k + 1, by omega, by go_num, HR.out, hB _⟩
          case measure => simp [intOf]; omega
      · have HR : Hid _ := placeZ_end hlt hany
        go_wp2
        go_ret
        exact ⟨ret_int HR.out.symm, hbl⟩

set_option maxHeartbeats 400000 in
set_option maxRecDepth 100000 in
theorem isAmong_any (a : Option Addr) (c : Nat) (ls : List GrantV) (x : Int) (w : World) (hr : ReadsG w a ls) (hl : ls.length ≤ 1099511627776) :
    Calls Tryd.prog 39 #[.slice a ls.length c, .int .i64 x] w fun e w' => e = .returned (.bool (ls.any (fun g => g.tx == x))) ∧ Below w.heap.size w w' := by
  rcases hr.cases with rfl | ⟨b, off, rfl, hpos, hcell⟩
  · go_enter Tryd.func39, Tryd.ntmps39
    go_wp2
    refine wp_loop_rounds 1 ?_
    rw [rounds_succ]
    go_wp2
    go_ret
    exact ⟨rfl, Below.refl _ _⟩
  · go_enter Tryd.func39, Tryd.ntmps39
    go_wp2
    go_loopw [9] (fun i wr => ∃ k : Nat, k ≤ ls.length ∧ i = .int .i64 k ∧ Hid ((ls.take k).any (fun g => g.tx == x) = false) ∧ Below w.heap.size w wr) (fun i _ => ls.length - (intOf i).toNat)
    case atStart => exact ⟨0, Nat.zero_le _, rfl, rfl, Below.refl _ _⟩
    case round =>
      obtain ⟨k, hk, rfl, hany, hbl⟩ := hrel
      by_cases hlt : k < ls.length
      · obtain ⟨c0, c1, c2⟩ := hcell k hlt
        have d0 : wr.cell? ⟨b, off + k * 3, none⟩ = _ := (hbl.cell (block_lt c0)).trans c0
        have d1 : wr.cell? ⟨b, off + k * 3 + 1, none⟩ = _ := (hbl.cell (block_lt c1)).trans c1
        have d2 : wr.cell? ⟨b, off + k * 3 + 2, none⟩ = _ := (hbl.cell (block_lt c2)).trans c2
        clear c0 c1 c2
        have HN : Hid (((ls.getD k zeroG).tx == x) = false → (ls.take (k + 1)).any (fun g => g.tx == x) = false) := any_step (p := fun g : GrantV => g.tx == x) hlt hany
        have HH : Hid (((ls.getD k zeroG).tx == x) = true → ls.any (fun g => g.tx == x) = true) := any_hit (p := fun g : GrantV => g.tx == x) hlt
        clear hcell hany
        generalize ls.getD k zeroG = z at *
        have hB : ∀ o, Below w.heap.size w (wr.alloc o) := fun o => hbl.alloc hbl.size o
        clear hbl
        by_cases h1 : z.tx = x
        · have HR : Hid _ := HH.out (by simp [h1])
          go_wp2
          go_ret
          exact ⟨ret_bool HR.out.symm, hB _⟩
        · have HR : Hid _ := HN.out (by simp [h1])
          go_wp2
          go_roundw
          case rel => exact ⟨k + 1, by omega, by go_num, HR.out, hB _⟩
          case measure => simp [intOf]; omega
      · have HR : Hid _ := any_end hlt hany
        go_wp2
        go_ret
        exact ⟨ret_bool HR.out.symm, hbl⟩

set_option maxHeartbeats 400000 in
set_option maxRecDepth 100000 in
theorem isWanted_any (a : Option Addr) (c : Nat) (ls : List GrantV) (x : Int) (w : World) (hr : ReadsG w a ls) (hl : ls.length ≤ 1099511627776) :
    Calls Tryd.prog 60 #[.slice a ls.length c, .int .i64 x] w fun e w' => e = .returned (.bool (ls.any (fun g => g.res == x))) ∧ Below w.heap.size w w' := by
  rcases hr.cases with rfl | ⟨b, off, rfl, hpos, hcell⟩
  · go_enter Tryd.func60, Tryd.ntmps60
    go_wp2
    refine wp_loop_rounds 1 ?_
    rw [rounds_succ]
    go_wp2
    go_ret
    exact ⟨rfl, Below.refl _ _⟩
  · go_enter Tryd.func60, Tryd.ntmps60
    go_wp2
    go_loopw [9] (fun i wr => ∃ k : Nat, k ≤ ls.length ∧ i = .int .i64 k ∧ Hid ((ls.take k).any (fun g => g.res == x) = false) ∧ Below w.heap.size w wr) (fun i _ => ls.length - (intOf i).toNat)
    case atStart => exact ⟨0, Nat.zero_le _, rfl, rfl, Below.refl _ _⟩
    case round =>
      obtain ⟨k, hk, rfl, hany, hbl⟩ := hrel
      by_cases hlt : k < ls.length
      · obtain ⟨c0, c1, c2⟩ := hcell k hlt
        have d0 : wr.cell? ⟨b, off + k * 3, none⟩ = _ := (hbl.cell (block_lt c0)).trans c0
        have d1 : wr.cell? ⟨b, off + k * 3 + 1, none⟩ = _ := (hbl.cell (block_lt c1)).trans c1
        have d2 : wr.cell? ⟨b, off + k * 3 + 2, none⟩ = _ := (hbl.cell (block_lt c2)).trans c2
        clear c0 c1 c2
        have HN : Hid (((ls.getD k zeroG).res == x) = false → (ls.take (k + 1)).any (fun g => g.res == x) = false) := any_step (p := fun g : GrantV => g.res == x) hlt hany
        have HH : Hid (((ls.getD k zeroG).res == x) = true → ls.any (fun g => g.res == x) = true) := any_hit (p := fun g : GrantV => g.res == x) hlt
        clear hcell hany
        generalize ls.getD k zeroG = z at *
        have hB : ∀ o, Below w.heap.size w (wr.alloc o) := fun o => hbl.alloc hbl.size o
        clear hbl
        by_cases h1 : z.res = x
        · have HR : Hid _ := HH.out (by simp [h1])
          go_wp2
          go_ret
          exact ⟨ret_bool HR.out.symm, hB _⟩
        · have HR : Hid _ := HN.out (by simp [h1])
          go_wp2
          go_roundw
          case rel => exact ⟨k + 1, by omega, by go_num, HR.out, hB _⟩
          case measure => simp [intOf]; omega
      · have HR : Hid _ := any_end hlt hany
        go_wp2
        go_ret
        exact ⟨ret_bool HR.out.symm, hbl⟩

set_option maxHeartbeats 400000 in
set_option maxRecDepth 100000 in
theorem bars_any (o g : GrantV) (w : World) (hT : TabGo w) :
    Calls Tryd.prog 67 #[.agg #[.int .i64 o.tx, .int .i64 o.res, .int .i64 o.mode], .agg #[.int .i64 g.tx, .int .i64 g.res, .int .i64 g.mode]] w fun e w' => e = .returned (.bool (barsB g o)) ∧ Below w.heap.size w w' := by
  obtain ⟨W, hW, b0, b1, hbW, hsW⟩ := boxes2 w [.int .i64 o.tx, .int .i64 o.res, .int .i64 o.mode] [.int .i64 g.tx, .int .i64 g.res, .int .i64 g.mode] 37 37
  have C := implGoes_any g.mode o.mode W (hT.keep hbW)
  have HB : Hid (barsB g o = (o.res == g.res && (o.tx != g.tx && !goesB g.mode o.mode))) := rfl
  generalize goesB g.mode o.mode = gg at *
  generalize barsB g o = R at *
  obtain ⟨a, b, d⟩ := o
  obtain ⟨a', b', d'⟩ := g
  simp only at *
  clear b0 b1 hsW hT
  by_cases h1 : b = b'
  · by_cases h2 : a = a'
    · have HR : R = false := by rw [HB.out]; simp [h2]
      subst HR h1 h2
      go_enter Tryd.func67, Tryd.ntmps67
      go_wp2
      go_ret
      rw [hW.out]
      exact ⟨rfl, hbW⟩
    · have HR : R = !gg := by rw [HB.out]; simp [h1, h2]
      subst HR h1
      go_enter Tryd.func67, Tryd.ntmps67
      go_wp2_with fail
      rw [hW.out]
      refine C.mono ?_
      rintro e w' ⟨rfl, rfl⟩
      go_wp2
      go_ret
      exact ⟨ret_bool (by simp [h2]), hbW⟩
  · have HR : R = false := by rw [HB.out]; simp [h1]
    subst HR
    go_enter Tryd.func67, Tryd.ntmps67
    go_wp2
    go_ret
    rw [hW.out]
    exact ⟨rfl, hbW⟩

set_option maxHeartbeats 400000 in
set_option maxRecDepth 100000 in
theorem goesWith_any (a : Option Addr) (c : Nat) (ls : List GrantV) (g : GrantV) (w : World) (hT : TabGo w) (hr : ReadsG w a ls) (hl : ls.length ≤ 1099511627776) :
    Calls Tryd.prog 46 #[.slice a ls.length c, .agg #[.int .i64 g.tx, .int .i64 g.res, .int .i64 g.mode]] w fun e w' => e = .returned (.bool (!ls.any (barsB g))) ∧ Below w.heap.size w w' := by
  obtain ⟨W, hW, b0, hbW, hsW⟩ := boxes1 w [.int .i64 g.tx, .int .i64 g.res, .int .i64 g.mode] 37
  have hlt0 := b0.lt
  have hrW := hr.below hbW
  have hTW := hT.keep hbW
  clear hr hT
  rcases hrW.cases with rfl | ⟨b, off, rfl, hpos, hcell⟩
  · go_enter Tryd.func46, Tryd.ntmps46
    go_wp2
    refine wp_loop_rounds 1 ?_
    rw [rounds_succ]
    go_wp2
    go_ret
    rw [hW.out]
    exact ⟨rfl, hbW⟩
  · go_enter Tryd.func46, Tryd.ntmps46
    go_wp2
    rw [hW.out]
    clear hW
    go_loopw [9] (fun i wr => ∃ k : Nat, k ≤ ls.length ∧ i = .int .i64 k ∧ Hid ((ls.take k).any (barsB g) = false) ∧ Below W.heap.size W wr) (fun i _ => ls.length - (intOf i).toNat)
    case atStart => exact ⟨0, Nat.zero_le _, rfl, rfl, Below.refl _ _⟩
    case round =>
      obtain ⟨k, hk, rfl, hany, hbl⟩ := hrel
      have HB : Hid (∀ w', Below W.heap.size W w' → Below w.heap.size w w') := fun w' h => hbW.trans (h.mono hbW.size)
      by_cases hlt : k < ls.length
      · obtain ⟨c0, c1, c2⟩ := hcell k hlt
        have d0 : wr.cell? ⟨b, off + k * 3, none⟩ = _ := (hbl.cell (block_lt c0)).trans c0
        have d1 : wr.cell? ⟨b, off + k * 3 + 1, none⟩ = _ := (hbl.cell (block_lt c1)).trans c1
        have d2 : wr.cell? ⟨b, off + k * 3 + 2, none⟩ = _ := (hbl.cell (block_lt c2)).trans c2
        clear c0 c1 c2
        have HN : Hid (barsB g (ls.getD k zeroG) = false → (ls.take (k + 1)).any (barsB g) = false) := any_step hlt hany
        have HH : Hid (barsB g (ls.getD k zeroG) = true → ls.any (barsB g) = true) := any_hit hlt
        clear hcell hany
        generalize ls.getD k zeroG = z at *
        have bg := b0.below hbl hlt0
        obtain ⟨e0, e1, e2, _⟩ := bg.three
        have hlw := bg.lt
        obtain ⟨V, hV, bz, hbV, hsV⟩ := boxes1 wr [.int .i64 z.tx, .int .i64 z.res, .int .i64 z.mode] 37
        have hBV : Below W.heap.size W V := hbl.trans (hbV.mono hbl.size)
        have C := bars_any z g V (hTW.keep hBV)
        clear bg bz hsV hbl hbV b0
        go_wp2_with fail
        rw [hV.out]
        refine C.mono ?_
        clear C hV
        generalize barsB g z = R at *
        rintro e w1 ⟨rfl, hb1⟩
        have hB1 : Below W.heap.size W w1 := hBV.trans (hb1.mono hBV.size)
        clear hb1 hBV
        cases R
        · have HR : Hid _ := HN.out rfl
          go_wp2
          go_roundw
          case rel => exact ⟨k + 1, by omega, by go_num, HR.out, hB1⟩
          case measure => simp [intOf]; omega
        · have HR : Hid _ := HH.out rfl
          go_wp2
          go_ret
          exact ⟨ret_bool (by rw [HR.out]; rfl), HB.out _ hB1⟩
      · have HR : Hid _ := any_end hlt hany
        go_wp2
        go_ret
        exact ⟨ret_bool (by rw [HR.out]; rfl), HB.out _ hbl⟩

set_option maxHeartbeats 400000 in
set_option maxRecDepth 100000 in
theorem grantOk_any (g : GrantV) (w : World) :
    Calls Tryd.prog 38 #[.agg #[.int .i64 g.tx, .int .i64 g.res, .int .i64 g.mode]] w fun e w' => e = .returned (.bool (grantB g)) ∧ Below w.heap.size w w' := by
  obtain ⟨W, hW, b0, hbW, hsW⟩ := boxes1 w [.int .i64 g.tx, .int .i64 g.res, .int .i64 g.mode] 37
  have C := modeOk_any g.mode W
  obtain ⟨x, y, m⟩ := g
  simp only [grantB] at *
  clear b0 hsW
  by_cases h1 : 1 ≤ x
  case neg =>
    have HX : Hid (inB x 1 99 = false) := by simp [Hid, inB, h1]
    go_enter Tryd.func38, Tryd.ntmps38
    go_wp2
    go_ret
    rw [hW.out]
    exact ⟨ret_bool (by rw [HX.out]; rfl), hbW⟩
  by_cases h2 : x ≤ 99
  case neg =>
    have HX : Hid (inB x 1 99 = false) := by simp [Hid, inB, h2]
    go_enter Tryd.func38, Tryd.ntmps38
    go_wp2
    go_ret
    rw [hW.out]
    exact ⟨ret_bool (by rw [HX.out]; rfl), hbW⟩
  have HX : Hid (inB x 1 99 = true) := by simp [Hid, inB, h1, h2]
  by_cases h3 : 0 ≤ y
  case neg =>
    have HY : Hid (inB y 0 99 = false) := by simp [Hid, inB, h3]
    go_enter Tryd.func38, Tryd.ntmps38
    go_wp2
    go_ret
    rw [hW.out]
    exact ⟨ret_bool (by rw [HX.out, HY.out]; rfl), hbW⟩
  by_cases h4 : y ≤ 99
  case neg =>
    have HY : Hid (inB y 0 99 = false) := by simp [Hid, inB, h4]
    go_enter Tryd.func38, Tryd.ntmps38
    go_wp2
    go_ret
    rw [hW.out]
    exact ⟨ret_bool (by rw [HX.out, HY.out]; rfl), hbW⟩
  have HY : Hid (inB y 0 99 = true) := by simp [Hid, inB, h3, h4]
  go_enter Tryd.func38, Tryd.ntmps38
  go_wp2_with fail
  rw [hW.out]
  refine C.mono ?_
  rintro e w' ⟨rfl, rfl⟩
  go_wp2
  go_ret
  exact ⟨ret_bool (by rw [HX.out, HY.out]; rfl), hbW⟩

set_option maxHeartbeats 400000 in
set_option maxRecDepth 100000 in
theorem l9Grant_any (g : GrantV) (w : World) :
    Calls Tryd.prog 42 #[.agg #[.int .i64 g.tx, .int .i64 g.res, .int .i64 g.mode]] w fun e w' => e = .returned (.bool (grantB g)) ∧ Below w.heap.size w w' := by
  obtain ⟨W, hW, b0, hbW, hsW⟩ := boxes1 w [.int .i64 g.tx, .int .i64 g.res, .int .i64 g.mode] 37
  obtain ⟨q0, q1, q2, _⟩ := b0.three
  have C1 := l1In_any g.tx 1 99 W
  have C2 := l1In_any g.res 0 99 W
  have C3 := l9Mode_any g.mode W
  have HB : Hid (grantB g = (inB g.tx 1 99 && (inB g.res 0 99 && modeB g.mode))) := rfl
  generalize inB g.tx 1 99 = x1 at *
  generalize inB g.res 0 99 = x2 at *
  generalize modeB g.mode = x3 at *
  generalize grantB g = R at *
  clear b0 hsW
  cases x1
  · go_enter Tryd.func42, Tryd.ntmps42
    go_wp2_with fail
    rw [hW.out]
    refine C1.mono ?_
    rintro e w' ⟨rfl, rfl⟩
    go_wp2
    go_ret
    exact ⟨ret_bool (by rw [HB.out]; rfl), hbW⟩
  cases x2
  · go_enter Tryd.func42, Tryd.ntmps42
    go_wp2_with fail
    rw [hW.out]
    refine C1.mono ?_
    rintro e w' ⟨rfl, rfl⟩
    go_wp2_with fail
    refine C2.mono ?_
    rintro e w' ⟨rfl, rfl⟩
    go_wp2
    go_ret
    exact ⟨ret_bool (by rw [HB.out]; rfl), hbW⟩
  · go_enter Tryd.func42, Tryd.ntmps42
    go_wp2_with fail
    rw [hW.out]
    refine C1.mono ?_
    rintro e w' ⟨rfl, rfl⟩
    go_wp2_with fail
    refine C2.mono ?_
    rintro e w' ⟨rfl, rfl⟩
    go_wp2_with fail
    refine C3.mono ?_
    rintro e w' ⟨rfl, rfl⟩
    go_wp2
    go_ret
    exact ⟨ret_bool (by rw [HB.out]; rfl), hbW⟩
end Go.Proofs.YtekljhabjkmhpaaDoor

/- Locks: what they are, where they lie; when they are right. -/
namespace Go.Proofs.YtekljhabjkmhpaaDoor
open Go.RowKit

structure LocksA where
  given : List GrantV
  waits : List GrantV
  aG : Option Addr
  cG : Nat
  aW : Option Addr
  cW : Nat
def LocksA.cells (l : LocksA) : List Value := [.slice l.aG l.given.length l.cG, .slice l.aW l.waits.length l.cW]
structure LocksA.reads (w : World) (l : LocksA) : Prop where
  given : ReadsG w l.aG l.given
  waits : ReadsG w l.aW l.waits
  ng : l.aG = none → l.cG = 0
  nw : l.aW = none → l.cW = 0
  lg : l.given.length ≤ l.cG
  lw : l.waits.length ≤ l.cW
theorem OwnG.cap {w : World} {lo hi : Nat} {a : Option Addr} {c : Nat} {ls : List GrantV} (h : OwnG w lo hi a c ls) : ls.length ≤ c := by
  rcases h.1.2 with ⟨hv, h0⟩ | ⟨g, cap, cur, hv, _, _, hr⟩
  · omega
  · simp only [Value.slice.injEq] at hv
    omega
theorem ReadsG.take {w : World} {a : Option Addr} {ls : List GrantV} (h : ReadsG w a ls) (k : Nat) : ReadsG w a (ls.take k) := by
  intro hne
  have hy : ls ≠ [] := by intro e; simp [e] at hne
  obtain ⟨b, off, ha, hc⟩ := h hy
  refine ⟨b, off, ha, fun i hi => ?_⟩
  have hi2 : i < k ∧ i < ls.length := by simp at hi; omega
  have : (ls.take k).getD i zeroG = ls.getD i zeroG := by simp [List.getD, hi2.1]
  rw [this]
  exact hc i hi2.2
structure LocksA.own (w : World) (lo hi : Nat) (l : LocksA) : Prop where
  given : OwnG w lo hi l.aG l.cG l.given
  waits : OwnG w lo hi l.aW l.cW l.waits
  apart : ∀ k, (Value.slice l.aG l.given.length l.cG).ownBlock = some k → (Value.slice l.aW l.waits.length l.cW).ownBlock ≠ some k
theorem LocksA.reads.below {w w' : World} {l : LocksA} (h : l.reads w) (hb : Below w.heap.size w w') : l.reads w' := ⟨h.given.below hb, h.waits.below hb, h.ng, h.nw, h.lg, h.lw⟩
theorem LocksA.own.reads {w : World} {lo hi : Nat} {l : LocksA} (h : l.own w lo hi) : l.reads w := ⟨h.given.reads, h.waits.reads, h.given.nocap, h.waits.nocap, h.given.cap, h.waits.cap⟩
theorem LocksA.own.below {w w' : World} {lo hi : Nat} {l : LocksA} (h : l.own w lo hi) (hb : Below w.heap.size w w') : l.own w' lo hi := ⟨h.given.below hb, h.waits.below hb, h.apart⟩
theorem LocksA.own.within {w w' : World} {lo hi x y : Nat} {l : LocksA} (h : l.own w lo hi) (hw : Within x y w w') (hd : hi ≤ x ∨ y ≤ lo) : l.own w' lo hi := ⟨h.given.within hw hd, h.waits.within hw hd, h.apart⟩
theorem LocksA.own.widen {w : World} {lo hi lo' hi' : Nat} {l : LocksA} (h : l.own w lo hi) (h1 : lo' ≤ lo) (h2 : hi ≤ hi') (h3 : hi' ≤ w.heap.size) : l.own w lo' hi' := ⟨h.given.widen h1 h2 h3, h.waits.widen h1 h2 h3, h.apart⟩
/-- Both lists are no longer than this. -/
def LocksA.short (l : LocksA) (n : Nat) : Prop := l.given.length ≤ n ∧ l.waits.length ≤ n

def clashB (g h : GrantV) : Bool := h.res == g.res && (h.tx == g.tx || !goesB h.mode g.mode)
def givenAt (ls : List GrantV) (i : Nat) : Bool := grantB (ls.getD i zeroG) && !(ls.take i).any (clashB (ls.getD i zeroG))
def waitAt (ls : List GrantV) (i : Nat) : Bool := grantB (ls.getD i zeroG) && !(ls.take i).any (fun h => h.tx == (ls.getD i zeroG).tx)
def okLocks (G W : List GrantV) : Bool := decide (G.length ≤ 60) && (decide (W.length ≤ 60) && ((List.range G.length).all (givenAt G) && (List.range W.length).all (waitAt W)))
theorem okLocks_g {G W : List GrantV} (h : ¬ G.length ≤ 60) : okLocks G W = false := by simp [okLocks, h]
theorem okLocks_w {G W : List GrantV} (h : ¬ W.length ≤ 60) : okLocks G W = false := by simp [okLocks, h]
theorem okLocks_given {G W : List GrantV} (k : Nat) (hk : k < G.length) (h : givenAt G k = false) : okLocks G W = false := by
  have : (List.range G.length).all (givenAt G) = false := by
    rw [List.all_eq_false]
    exact ⟨k, List.mem_range.2 hk, by rw [h]; decide⟩
  simp [okLocks, this]
theorem okLocks_wait {G W : List GrantV} (k : Nat) (hk : k < W.length) (h : waitAt W k = false) : okLocks G W = false := by
  have : (List.range W.length).all (waitAt W) = false := by
    rw [List.all_eq_false]
    exact ⟨k, List.mem_range.2 hk, by rw [h]; decide⟩
  simp [okLocks, this]
theorem okLocks_yes {G W : List GrantV} (h1 : G.length ≤ 60) (h2 : W.length ≤ 60) (h3 : ∀ k, k < G.length → givenAt G k = true) (h4 : ∀ k, k < W.length → waitAt W k = true) : okLocks G W = true := by
  have a3 : (List.range G.length).all (givenAt G) = true := List.all_eq_true.2 (fun k hk => h3 k (List.mem_range.1 hk))
  have a4 : (List.range W.length).all (waitAt W) = true := List.all_eq_true.2 (fun k hk => h4 k (List.mem_range.1 hk))
  simp [okLocks, a3, a4, h1, h2]
theorem okLocks_out {G W : List GrantV} (h : okLocks G W = true) : G.length ≤ 60 ∧ W.length ≤ 60 ∧ (∀ k, k < G.length → givenAt G k = true) ∧ (∀ k, k < W.length → waitAt W k = true) := by
  simp only [okLocks, Bool.and_eq_true, decide_eq_true_eq] at h
  exact ⟨h.1, h.2.1, fun k hk => List.all_eq_true.1 h.2.2.1 k (List.mem_range.2 hk), fun k hk => List.all_eq_true.1 h.2.2.2 k (List.mem_range.2 hk)⟩
/-- As the landed code asks it: nothing of this Tx and Res ahead, and it goes with the others. -/
theorem clash_split (g : GrantV) (ls : List GrantV) : ls.any (clashB g) = (ls.any (atB g.tx g.res) || ls.any (barsB g)) := by
  induction ls with
  | nil => rfl
  | cons h r ih =>
    simp only [List.any_cons, ih]
    have : clashB g h = (atB g.tx g.res h || barsB g h) := by
      unfold clashB atB barsB
      rw [goesB_symm h.mode g.mode]
      have e1 : (h.tx != g.tx) = !(h.tx == g.tx) := rfl
      rw [e1]
      cases (h.res == g.res) <;> cases (h.tx == g.tx) <;> cases goesB g.mode h.mode <;> rfl
    rw [this]
    cases atB g.tx g.res h <;> cases barsB g h <;> cases r.any (atB g.tx g.res) <;> cases r.any (barsB g) <;> rfl
end Go.Proofs.YtekljhabjkmhpaaDoor
