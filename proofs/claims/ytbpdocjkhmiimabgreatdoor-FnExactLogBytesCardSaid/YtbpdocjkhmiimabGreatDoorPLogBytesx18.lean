/- Several texts in one, in their order. -/
import Derived.Test.YtbpdocjkhmiimabGreatDoorPLogBytesx8
import Derived.WalkKit
import Derived.Test.YtbpdocjkhmiimabGreatDoorPLogBytesx14
import Derived.Test.YtbpdocjkhmiimabGreatDoorPLogBytesx4
import Derived.Laws.IdiomStrings
import Derived.Lib.BufferRead
/- The walk of impl.SameObj. -/
namespace Go.Proofs.YtbpdocjkhmiimabGreatDoor
open Go.RowKit

set_option maxHeartbeats 400000 in
theorem equalInts_any (a b : Option Addr) (ca cb : Nat) (xs ys : List Int) (w : World) (ha : ReadsI w a xs) (hb : ReadsI w b ys) (hl : xs.length ≤ 1099511627776) (hl2 : ys.length ≤ 1099511627776) :
    Calls Tryz.prog 138 #[.slice a xs.length ca, .slice b ys.length cb] w fun e w' => e = .returned (.bool (decide (xs = ys))) ∧ ∃ n, w' = w.drewN n := by
  by_cases hle : xs.length = ys.length
  case neg =>
    have HE : Hid (_ = _) := ne_len hle
    have hle' : ((xs.length : Int) == (ys.length : Int)) = false := by simp; omega
    go_enter Tryz.func138, Tryz.ntmps138
    go_wp2
    go_ret
    exact ⟨ret_bool HE.out.symm, 0, rfl⟩
  case pos =>
  have HL : Hid (xs.length = ys.length) := hle
  have hle' : ((xs.length : Int) == (ys.length : Int)) = true := by simp; omega
  rcases ha.cases with rfl | ⟨b1, o1, rfl, hpos, hc1⟩
  · obtain rfl : ys = [] := List.length_eq_zero_iff.1 (by simpa using hle.symm)
    have HE : Hid (decide (([] : List Int) = []) = true) := by simp [Hid]
    clear hle hle' HL
    go_enter Tryz.func138, Tryz.ntmps138
    go_wp2
    refine wp_loop_rounds 1 ?_
    rw [rounds_succ]
    go_wp2
    go_ret
    exact ⟨ret_bool HE.out.symm, 0, rfl⟩
  · rcases hb.cases with rfl | ⟨b2, o2, rfl, _, hc2⟩
    · simp at hle; simp [hle] at hpos
    · clear hle
      go_enter Tryz.func138, Tryz.ntmps138
      go_wp2
      go_loopw [13] (fun i wr => ∃ k : Nat, k ≤ xs.length ∧ i = .int .i64 k ∧ Hid (∀ t, t < k → xs.getD t 0 = ys.getD t 0) ∧ ∃ n, wr = w.drewN n) (fun i _ => xs.length - (intOf i).toNat)
      case atStart => exact ⟨0, Nat.zero_le _, rfl, fun t ht => by omega, 0, rfl⟩
      case round =>
        obtain ⟨k, hk, rfl, hall, n, rfl⟩ := hrel
        by_cases hlt : k < xs.length
        · have h1 := hc1 k hlt
          have h2 := hc2 k (by have := HL.out; omega)
          have hlt2 : (k : Int) < (ys.length : Int) := by have := HL.out; omega
          clear hc1 hc2
          by_cases hz : xs.getD k 0 = ys.getD k 0
          · have HN : Hid (∀ t, t < k + 1 → xs.getD t 0 = ys.getD t 0) := by
              intro t ht
              by_cases e : t = k
              · rw [e]; exact hz
              · exact hall.out t (by omega)
            rw [← hz] at h2
            clear hz
            generalize xs.getD k 0 = z at *
            go_wp2
            go_quiet (fail)
            go_wp2
            go_roundw
            case rel => exact ⟨k + 1, by omega, by go_num, HN, _, rfl⟩
            case measure => simp [intOf]; omega
          · have HE : Hid (_ = _) := ne_at k hz
            have hzb : (xs.getD k 0 == ys.getD k 0) = false := by simpa using hz
            clear hz
            generalize xs.getD k 0 = z at *
            generalize ys.getD k 0 = y at *
            go_wp2
            go_quiet (fail)
            go_wp2
            go_ret
            exact ⟨ret_bool HE.out.symm, n + nq, by first | rfl | simp⟩
        · have HE : Hid (_ = _) := eq_all HL.out (fun t ht => hall.out t (by omega))
          go_wp2
          go_ret
          exact ⟨ret_bool HE.out.symm, n, rfl⟩

set_option maxHeartbeats 1000000 in
set_option maxRecDepth 100000 in
theorem implSameObj_any (o p : ObjV) (aI : Option Addr) (cI : Nat) (aR : Option Addr) (cR : Nat) (bI : Option Addr) (dI : Nat) (bR : Option Addr) (dR : Nat) (w : World) (ha : ReadsO w aI cI aR cR o) (hb : ReadsO w bI dI bR dR p) (h1 : o.ints.length ≤ 1099511627776) (h2 : o.refs.length ≤ 1099511627776) (h3 : p.ints.length ≤ 1099511627776) (h4 : p.refs.length ≤ 1099511627776) :
    Calls Tryz.prog 127 #[.agg #[.int .i64 o.kind, .slice aI o.ints.length cI, .slice aR o.refs.length cR], .agg #[.int .i64 p.kind, .slice bI p.ints.length dI, .slice bR p.refs.length dR]] w fun e w' => e = .returned (.bool (sameO o p)) ∧ Below w.heap.size w w' := by
  obtain ⟨k, ints, refs⟩ := o
  obtain ⟨k', ints', refs'⟩ := p
  obtain ⟨haI, haR, _, _⟩ := ha
  obtain ⟨hbI, hbR, _, _⟩ := hb
  simp only at *
  obtain ⟨W, hW, b0, b1, hbW, hsW⟩ := boxes2 w [.int .i64 k, .slice aI ints.length cI, .slice aR refs.length cR] [.int .i64 k', .slice bI ints'.length dI, .slice bR refs'.length dR] 54 54
  by_cases hk : k = k'
  case neg =>
    have HE : Hid (sameO ⟨k, ints, refs⟩ ⟨k', ints', refs'⟩ = false) := by simp [Hid, sameO, hk]
    have hkb : (k == k') = false := by simpa using hk
    clear hk
    go_enter Tryz.func127, Tryz.ntmps127
    go_wp2
    go_ret
    exact ⟨ret_bool HE.out.symm, by rw [hW.out]; exact hbW⟩
  case pos =>
  subst hk
  have HE : Hid (sameO ⟨k, ints, refs⟩ ⟨k, ints', refs'⟩ = (decide (ints = ints') && decide (refs = refs'))) := by simp [Hid, sameO]
  go_enter Tryz.func127, Tryz.ntmps127
  go_wp2_with fail
  rw [hW.out]
  refine (equalInts_any aI bI cI dI ints ints' W (haI.below hbW) (hbI.below hbW) h1 h3).mono ?_
  rintro e w1 ⟨rfl, n1, rfl⟩
  have c0 := (b0.drewN n1).cell 2 _ rfl
  have c1 := (b1.drewN n1).cell 2 _ rfl
  have hb1 : Below w.heap.size w (W.drewN n1) := below_drewN hbW n1
  cases hd : decide (ints = ints') with
  | false =>
    rw [hd] at HE
    clear hd
    go_wp2
    go_ret
    exact ⟨ret_bool (by rw [HE.out]; rfl), hb1⟩
  | true =>
    rw [hd] at HE
    clear hd
    go_wp2_with fail
    refine (equalInts_any aR bR cR dR refs refs' (W.drewN n1) (haR.below hb1) (hbR.below hb1) h2 h4).mono ?_
    rintro e w2 ⟨rfl, n2, rfl⟩
    generalize decide (refs = refs') = D at *
    go_wp2
    go_ret
    exact ⟨ret_bool (by rw [HE.out]; rfl), below_drewN hbW (n1 + n2)⟩
end Go.Proofs.YtbpdocjkhmiimabGreatDoor

/- The bytes of a text. -/
namespace Go.Proofs.YtbpdocjkhmiimabGreatDoor

def sBytes (s : ByteArray) : List Int := s.data.toList.map fun b => (b.toNat : Int)

theorem sBytes_len (s : ByteArray) : (sBytes s).length = s.size := by
  rw [sBytes, List.length_map, Array.length_toList]; rfl
theorem sBytes_byte (s : ByteArray) : ∀ z ∈ sBytes s, 0 ≤ z ∧ z < 256 := by
  intro z hz
  simp only [sBytes, List.mem_map] at hz
  obtain ⟨b, _, rfl⟩ := hz
  have := b.toNat_lt
  omega

theorem sBytes_extract (s : ByteArray) (a b : Nat) : sBytes (s.extract a b) = ((sBytes s).drop a).take (b - a) := by
  unfold sBytes
  rw [ByteArray.data_extract, Array.toList_extract, List.map_take, List.map_drop]

theorem sBytes_step (s : ByteArray) (f p : Nat) (h : f ≤ p) : (sBytes s).take f ++ sBytes (s.extract f p) = (sBytes s).take p := by
  rw [sBytes_extract, ← List.take_add, Nat.add_sub_cancel' h]

theorem sBytes_rest (s : ByteArray) (f : Nat) (h : f ≤ s.size) : (sBytes s).take f ++ sBytes (s.extract f s.size) = sBytes s := by
  rw [sBytes_step s f s.size h, List.take_of_length_le (by rw [sBytes_len]; exact Nat.le_refl _)]

end Go.Proofs.YtbpdocjkhmiimabGreatDoor

/- The walk of impl.GetInt, and of the exact law of GetInt. -/
namespace Go.Proofs.YtbpdocjkhmiimabGreatDoor
open Go.RowKit

set_option maxHeartbeats 400000 in
theorem implGetInt_any (a : Option Addr) (c : Nat) (zs : List Int) (p : Int) (w : World) (hr : Reads w a zs) (hl : zs.length ≤ 70368744177664) (hcap : zs.length ≤ c) :
    Calls Tryz.prog 141 #[.slice a zs.length c, .int .i64 p] w fun e w' => e = .returned (triple (getAt zs p)) ∧ w' = w := by
  cases hg : getAt zs p with
  | some r =>
    obtain ⟨n, k⟩ := r
    have HS : Hid (scanOf zs p = _) := (show scanOf zs p = scanOk (n, k) from by unfold scanOf; rw [hg])
    clear hg
    go_enter Tryz.func141, Tryz.ntmps141
    go_wp2_with fail
    refine (scanInt_any a c zs p w hr hl hcap).mono ?_
    rintro e w' ⟨rfl, rfl⟩
    rw [HS.out]
    simp only [scanOk]
    go_wp2
    go_ret3
    exact ⟨rfl, rfl⟩
  | none =>
    have HS : Hid (scanOf zs p = _) := scan_none zs p hg _ rfl
    have hw : (scanWhy zs p == 0) = false := by unfold scanWhy; split <;> rfl
    clear hg
    generalize scanWhy zs p = y at *
    go_enter Tryz.func141, Tryz.ntmps141
    go_wp2_with fail
    refine (scanInt_any a c zs p w hr hl hcap).mono ?_
    rintro e w' ⟨rfl, rfl⟩
    rw [HS.out]
    go_wp2
    go_ret3
    exact ⟨rfl, rfl⟩
end Go.Proofs.YtbpdocjkhmiimabGreatDoor

/- A text of bytes. -/
namespace Go.Proofs.YtbpdocjkhmiimabGreatDoor
open Go.RowKit

def strOf (G : List Int) : ByteArray := ⟨(G.map fun z => UInt8.ofNat z.toNat).toArray⟩

theorem run_text (w : World) (b off cap : Nat) (G : List Int) (n : Nat) (hn : n = G.length) (hr : Reads w (some ⟨b, off, none⟩) G) :
    (convert 34 9 (.slice (some ⟨b, off, none⟩) n cap)).run Tryz.prog w = .ok (.string (strOf G)) w := by
  have h := run_convert_bytes_back (P := Tryz.prog) w 34 9 5 ⟨b, off, none⟩ cap (G.map fun z => UInt8.ofNat z.toNat) Tryz.underlying34 Tryz.underlying5 Tryz.underlying9 ?_
  · rw [List.length_map] at h
    rw [hn, h]
    rfl
  · intro j hj
    rw [List.length_map] at hj
    have hne : G ≠ [] := by intro e; simp [e] at hj
    obtain ⟨b', off', hh, hc⟩ := hr.2 hne
    cases hh
    have hadd : (⟨b, off, none⟩ : Addr).add j = ⟨b, off + j, none⟩ := by unfold Addr.add; split <;> simp_all
    rw [hadd, hc j hj]
    have hb := bytes_nat hr.1 j
    have hg : G.getD j 0 = G[j] := by simp [List.getD, hj]
    rw [hg] at hb
    simp only [List.getElem_map, hg]
    have : (UInt8.ofNat G[j].toNat).toNat = G[j].toNat := by simp; omega
    rw [this, ← hb.1]

theorem run_text_own {w : World} {base : Nat} {a : Option Addr} {c : Nat} {ys : List Int} (h : OwnB w base a c ys) :
    (convert 34 9 (.slice a ys.length c)).run Tryz.prog w = .ok (.string (strOf ys)) w := by
  cases a with
  | none =>
    have hn : ys = [] := by
      by_cases e : ys = []
      · exact e
      · obtain ⟨b, off, hh, _⟩ := h.reads.2 e
        cases hh
    subst hn
    exact Lib.run_convert_nil_bytes (P := Tryz.prog) w 34 9 5 c Tryz.underlying34 Tryz.underlying5 Tryz.underlying9
  | some x =>
    rcases h.2.2 with ⟨hv, _⟩ | ⟨g, cap, cur, hv, _⟩
    · simp at hv
    · simp only [Value.slice.injEq, Option.some.injEq] at hv
      obtain ⟨rfl, _, rfl⟩ := hv
      exact run_text w g 0 c ys _ rfl h.reads

end Go.Proofs.YtbpdocjkhmiimabGreatDoor
