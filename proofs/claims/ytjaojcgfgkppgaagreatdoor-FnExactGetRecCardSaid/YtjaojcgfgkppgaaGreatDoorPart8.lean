/- Several texts in one, in their order. -/
import Derived.WalkKit
import Derived.Test.YtjaojcgfgkppgaaGreatDoorPart2
import Derived.Laws.IdiomStrings
import Derived.Lib.BufferRead
import Derived.Test.YtjaojcgfgkppgaaGreatDoorPart7
import Derived.Test.YtjaojcgfgkppgaaGreatDoorPart5
import Derived.Test.YtjaojcgfgkppgaaGreatDoorPart4
import Derived.Test.YtjaojcgfgkppgaaGreatDoorPart6
import Derived.Deep.RegionHeld3
import Derived.Deep.CutRange
import Derived.Test.YtjaojcgfgkppgaaGreatDoorPart3
/- The bytes of a text. -/
namespace Go.Proofs.YtjaojcgfgkppgaaGreatDoor

def sBytes (s : ByteArray) : List Int := s.data.toList.map fun b => (b.toNat : Int)

theorem sBytes_len (s : ByteArray) : (sBytes s).length = s.size := by
  rw [sBytes, List.length_map, Array.length_toList]; rfl
theorem sBytes_byte (s : ByteArray) : ∀ z ∈ sBytes s, 0 ≤ z ∧ z < 256 := by
  intro z hz
  simp only [sBytes, List.mem_map] at hz
  obtain ⟨b, _, rfl⟩ := hz
  have := b.toNat_lt
  omega

theorem sBytes_extract (s : ByteArray) (a b : Nat) : sBytes (s.extract a b) = ((sBytes s).drop a).take (b - a) := by
  unfold sBytes
  rw [ByteArray.data_extract, Array.toList_extract, List.map_take, List.map_drop]

theorem sBytes_step (s : ByteArray) (f p : Nat) (h : f ≤ p) : (sBytes s).take f ++ sBytes (s.extract f p) = (sBytes s).take p := by
  rw [sBytes_extract, ← List.take_add, Nat.add_sub_cancel' h]

theorem sBytes_rest (s : ByteArray) (f : Nat) (h : f ≤ s.size) : (sBytes s).take f ++ sBytes (s.extract f s.size) = sBytes s := by
  rw [sBytes_step s f s.size h, List.take_of_length_le (by rw [sBytes_len]; exact Nat.le_refl _)]

end Go.Proofs.YtjaojcgfgkppgaaGreatDoor

/- A text of bytes. -/
namespace Go.Proofs.YtjaojcgfgkppgaaGreatDoor
open Go.RowKit

def strOf (G : List Int) : ByteArray := ⟨(G.map fun z => UInt8.ofNat z.toNat).toArray⟩

theorem run_text (w : World) (b off cap : Nat) (G : List Int) (n : Nat) (hn : n = G.length) (hr : Reads w (some ⟨b, off, none⟩) G) :
    (convert 22 9 (.slice (some ⟨b, off, none⟩) n cap)).run Tryz.prog w = .ok (.string (strOf G)) w := by
  have h := run_convert_bytes_back (P := Tryz.prog) w 22 9 5 ⟨b, off, none⟩ cap (G.map fun z => UInt8.ofNat z.toNat) Tryz.underlying22 Tryz.underlying5 Tryz.underlying9 ?_
  · rw [List.length_map] at h
    rw [hn, h]
    rfl
  · intro j hj
    rw [List.length_map] at hj
    have hne : G ≠ [] := by intro e; simp [e] at hj
    obtain ⟨b', off', hh, hc⟩ := hr.2 hne
    cases hh
    have hadd : (⟨b, off, none⟩ : Addr).add j = ⟨b, off + j, none⟩ := by unfold Addr.add; split <;> simp_all
    rw [hadd, hc j hj]
    have hb := bytes_nat hr.1 j
    have hg : G.getD j 0 = G[j] := by simp [List.getD, hj]
    rw [hg] at hb
    simp only [List.getElem_map, hg]
    have : (UInt8.ofNat G[j].toNat).toNat = G[j].toNat := by simp; omega
    rw [this, ← hb.1]

theorem run_text_own {w : World} {base : Nat} {a : Option Addr} {c : Nat} {ys : List Int} (h : OwnB w base a c ys) :
    (convert 22 9 (.slice a ys.length c)).run Tryz.prog w = .ok (.string (strOf ys)) w := by
  cases a with
  | none =>
    have hn : ys = [] := by
      by_cases e : ys = []
      · exact e
      · obtain ⟨b, off, hh, _⟩ := h.reads.2 e
        cases hh
    subst hn
    exact Lib.run_convert_nil_bytes (P := Tryz.prog) w 22 9 5 c Tryz.underlying22 Tryz.underlying5 Tryz.underlying9
  | some x =>
    rcases h.2.2 with ⟨hv, _⟩ | ⟨g, cap, cur, hv, _⟩
    · simp at hv
    · simp only [Value.slice.injEq, Option.some.injEq] at hv
      obtain ⟨rfl, _, rfl⟩ := hv
      exact run_text w g 0 c ys _ rfl h.reads

end Go.Proofs.YtjaojcgfgkppgaaGreatDoor

/- The walks of impl.GetText and spec.GetText. -/
namespace Go.Proofs.YtjaojcgfgkppgaaGreatDoor
open Go.RowKit

/-- What GetText answers. -/
def textOf (zs : List Int) (p : Int) : Value := match getAt zs p with
  | some r => if 0 ≤ r.1 ∧ r.1 ≤ (zs.length : Int) - (r.2 : Int) then .tuple #[.string (strOf ((zs.drop r.2).take r.1.toNat)), .int .i64 ((r.2 : Int) + r.1), .bool true] else .tuple #[.string ⟨#[]⟩, .int .i64 0, .bool false]
  | none => .tuple #[.string ⟨#[]⟩, .int .i64 0, .bool false]

set_option maxHeartbeats 400000 in
theorem implGetText_any (a : Option Addr) (c : Nat) (zs : List Int) (p : Int) (w : World) (hr : Reads w a zs) (hl : zs.length ≤ 70368744177664) (hcap : zs.length ≤ c) :
    Calls Tryz.prog 81 #[.slice a zs.length c, .int .i64 p] w fun e w' => e = .returned (textOf zs p) ∧ w' = w := by
  cases hg : getAt zs p with
  | none =>
    have HT : Hid (textOf zs p = _) := (show textOf zs p = .tuple #[.string ⟨#[]⟩, .int .i64 0, .bool false] from by unfold textOf; rw [hg])
    have HG : Hid (_ = _) := hg
    clear hg
    go_enter Tryz.func81, Tryz.ntmps81
    go_wp2_with fail
    refine (implGetInt_any a c zs p w hr hl hcap).mono ?_
    rintro e w' ⟨rfl, rfl⟩
    rw [HG.out]
    simp only [triple]
    go_wp2
    go_ret3
    exact ⟨by rw [HT.out]; rfl, rfl⟩
  | some r =>
    obtain ⟨n, k⟩ := r
    obtain ⟨hk, hn1, hn2⟩ := getAt_bd zs p n k hg
    have HG : Hid (_ = _) := hg
    by_cases h0 : n < 0
    · have HT : Hid (textOf zs p = _) := (show textOf zs p = .tuple #[.string ⟨#[]⟩, .int .i64 0, .bool false] from by unfold textOf; rw [hg]; simp only; rw [if_neg (by omega)])
      clear hg
      go_enter Tryz.func81, Tryz.ntmps81
      go_wp2_with fail
      refine (implGetInt_any a c zs p w hr hl hcap).mono ?_
      rintro e w' ⟨rfl, rfl⟩
      rw [HG.out]
      simp only [triple]
      go_wp2
      go_ret3
      exact ⟨by rw [HT.out]; rfl, rfl⟩
    obtain ⟨m, rfl⟩ := Int.eq_ofNat_of_zero_le (show 0 ≤ n from by omega)
    by_cases h1 : (zs.length : Int) - (k : Int) < (m : Int)
    · have HT : Hid (textOf zs p = _) := (show textOf zs p = .tuple #[.string ⟨#[]⟩, .int .i64 0, .bool false] from by unfold textOf; rw [hg]; simp only; rw [if_neg (by omega)])
      clear hg
      go_enter Tryz.func81, Tryz.ntmps81
      go_wp2_with fail
      refine (implGetInt_any a c zs p w hr hl hcap).mono ?_
      rintro e w' ⟨rfl, rfl⟩
      rw [HG.out]
      simp only [triple]
      go_wp2
      go_ret3
      exact ⟨by rw [HT.out]; rfl, rfl⟩
    have HT : Hid (textOf zs p = _) := (show textOf zs p = .tuple #[.string (strOf ((zs.drop k).take m)), .int .i64 ((k : Int) + (m : Int)), .bool true] from by unfold textOf; rw [hg]; simp only; rw [if_pos (by omega), Int.toNat_natCast])
    rcases hr.cases with rfl | ⟨b, off, rfl, hpos, hcell⟩
    · simp [getAt, getOf, lead] at hg
    have hrp := reads_part hr.byte hcell k m (by omega)
    have hml : ((zs.drop k).take m).length = m := by simp; omega
    clear hg hcell
    generalize (zs.drop k).take m = G at *
    have HML : Hid (G.length = m) := hml
    clear hml
    by_cases hck : c = k
    · have hm0 : m ≤ 0 := by omega
      have hG : G = [] := by have := HML.out; exact List.length_eq_zero_iff.1 (by omega)
      have HGE : Hid (strOf G = strOf []) := by rw [hG]; rfl
      have hcA : ∀ cap, (convert 22 9 (.slice (some ⟨b, off, none⟩) (k + m - k) cap)).run Tryz.prog w = .ok (.string (strOf [])) w := fun cap => run_text w b off cap [] _ (by simp; omega) ⟨by simp, by simp⟩
      have hcB : ∀ cap, (convert 22 9 (.slice (some ⟨b, off, none⟩) m cap)).run Tryz.prog w = .ok (.string (strOf [])) w := fun cap => run_text w b off cap [] _ (by simp; omega) ⟨by simp, by simp⟩
      clear hG hrp
      subst hck
      go_enter Tryz.func81, Tryz.ntmps81
      go_wp2_with fail
      refine (implGetInt_any (some ⟨b, off, none⟩) c zs p w hr hl hcap).mono ?_
      rintro e w' ⟨rfl, rfl⟩
      rw [HG.out]
      simp only [triple]
      go_wp2
      go_ret3
      exact ⟨by rw [HT.out, HGE.out]; rfl, rfl⟩
    · have hcA : ∀ cap, (convert 22 9 (.slice (some ⟨b, off + k, none⟩) (k + m - k) cap)).run Tryz.prog w = .ok (.string (strOf G)) w := fun cap => run_text w b (off + k) cap G _ (by have := HML.out; omega) hrp
      have hcB : ∀ cap, (convert 22 9 (.slice (some ⟨b, off + k, none⟩) m cap)).run Tryz.prog w = .ok (.string (strOf G)) w := fun cap => run_text w b (off + k) cap G _ HML.out.symm hrp
      clear hrp
      go_enter Tryz.func81, Tryz.ntmps81
      go_wp2_with fail
      refine (implGetInt_any (some ⟨b, off, none⟩) c zs p w hr hl hcap).mono ?_
      rintro e w' ⟨rfl, rfl⟩
      rw [HG.out]
      simp only [triple]
      go_wp2
      go_ret3
      exact ⟨by rw [HT.out]; rfl, rfl⟩
end Go.Proofs.YtjaojcgfgkppgaaGreatDoor

/- The walk of impl.PutInt. -/
namespace Go.Proofs.YtjaojcgfgkppgaaGreatDoor
open Go.RowKit

end Go.Proofs.YtjaojcgfgkppgaaGreatDoor

/- The walk of spec.l2Same. -/
namespace Go.Proofs.YtjaojcgfgkppgaaGreatDoor
open Go.RowKit

set_option maxHeartbeats 400000 in
theorem l2Same_any (a b : Option Addr) (ca cb : Nat) (xs ys : List Int) (w : World) (ha : Reads w a xs) (hb : Reads w b ys) (hl : xs.length ≤ 1099511627776) (hl2 : ys.length ≤ 1099511627776) :
    Calls Tryz.prog 25 #[.slice a xs.length ca, .slice b ys.length cb] w fun e w' => e = .returned (.bool (decide (xs = ys))) ∧ ∃ n, w' = w.drewN n := by
  by_cases hle : xs.length = ys.length
  case neg =>
    have HE : Hid (_ = _) := ne_len hle
    have hle' : ((xs.length : Int) == (ys.length : Int)) = false := by simp; omega
    go_enter Tryz.func25, Tryz.ntmps25
    go_wp2
    go_ret
    exact ⟨ret_bool HE.out.symm, 0, rfl⟩
  case pos =>
  have HL : Hid (xs.length = ys.length) := hle
  have hle' : ((xs.length : Int) == (ys.length : Int)) = true := by simp; omega
  rcases ha.cases with rfl | ⟨b1, o1, rfl, hpos, hc1⟩
  · obtain rfl : ys = [] := List.length_eq_zero_iff.1 (by simpa using hle.symm)
    have HE : Hid (decide (([] : List Int) = []) = true) := by simp [Hid]
    clear hle hle' HL
    go_enter Tryz.func25, Tryz.ntmps25
    go_wp2
    refine wp_loop_rounds 1 ?_
    rw [rounds_succ]
    go_wp2
    go_ret
    exact ⟨ret_bool HE.out.symm, 0, rfl⟩
  · rcases hb.cases with rfl | ⟨b2, o2, rfl, _, hc2⟩
    · simp at hle; simp [hle] at hpos
    · clear hle
      go_enter Tryz.func25, Tryz.ntmps25
      go_wp2
      go_loopw [5] (fun i wr => ∃ k : Nat, k ≤ xs.length ∧ i = .int .i64 k ∧ Hid (∀ t, t < k → xs.getD t 0 = ys.getD t 0) ∧ ∃ n, wr = w.drewN n) (fun i _ => xs.length - (intOf i).toNat)
      case atStart => exact ⟨0, Nat.zero_le _, rfl, fun t ht => by omega, 0, rfl⟩
      case round =>
        obtain ⟨k, hk, rfl, hall, n, rfl⟩ := hrel
        by_cases hlt : k < xs.length
        · have h1 := hc1 k hlt
          have h2 := hc2 k (by have := HL.out; omega)
          have hlt2 : (k : Int) < (ys.length : Int) := by have := HL.out; omega
          clear hc1 hc2
          by_cases hz : xs.getD k 0 = ys.getD k 0
          · have HN : Hid (∀ t, t < k + 1 → xs.getD t 0 = ys.getD t 0) := by
              intro t ht
              by_cases e : t = k
              · rw [e]; exact hz
              · exact hall.out t (by omega)
            rw [← hz] at h2
            clear hz
            generalize xs.getD k 0 = z at *
            go_wp2
            go_quiet (fail)
            go_wp2
            go_roundw
            case rel => exact ⟨k + 1, by omega, by go_num, HN, _, rfl⟩
            case measure => simp [intOf]; omega
          · have HE : Hid (_ = _) := ne_at k hz
            have hzb : (xs.getD k 0 == ys.getD k 0) = false := by simpa using hz
            clear hz
            generalize xs.getD k 0 = z at *
            generalize ys.getD k 0 = y at *
            go_wp2
            go_quiet (fail)
            go_wp2
            go_ret
            exact ⟨ret_bool HE.out.symm, n + nq, by first | rfl | simp⟩
        · have HE : Hid (_ = _) := eq_all HL.out (fun t ht => hall.out t (by omega))
          go_wp2
          go_ret
          exact ⟨ret_bool HE.out.symm, n, rfl⟩

end Go.Proofs.YtjaojcgfgkppgaaGreatDoor

/- The walk of spec.GetObj. -/
namespace Go.Proofs.YtjaojcgfgkppgaaGreatDoor
open Go.RowKit

set_option maxHeartbeats 2000000 in
set_option maxRecDepth 100000 in
theorem specGetObj_any (a : Option Addr) (c : Nat) (zs : List Int) (w : World) (hr : Reads w a zs) (hl : zs.length ≤ 1099511627776) :
    Calls Tryz.prog 52 #[.slice a zs.length c] w fun e w' => ∃ aI cI aR cR o ok, e = .returned (.tuple #[.agg #[.int .i64 o.kind, .slice aI o.ints.length cI, .slice aR o.refs.length cR], .bool ok]) ∧ Hid (getPair zs = (o, ok)) ∧ OwnO w' w.heap.size w'.heap.size aI cI aR cR o ∧ Below w.heap.size w w' := by
  have HGR : Hid (_ = _) := getO_read zs
  have HRO : Hid (readO zs = (⟨(nextOf zs (0, false)).1, (listOf zs 5 (nextOf zs (0, false)).2).1, (listOf zs 5 (listOf zs 5 (nextOf zs (0, false)).2).2).1⟩, (listOf zs 5 (listOf zs 5 (nextOf zs (0, false)).2).2).2.2)) := rfl
  have HBR : Hid (zs ≠ [] → ∀ b off, a = some ⟨b, off, none⟩ → b ≠ w.heap.size + 1) := by
    intro hne b off ha
    obtain ⟨b', off', ha', hc⟩ := hr.2 hne
    rw [ha] at ha'
    cases ha'
    have := block_lt (hc 0 (List.length_pos_iff.2 hne))
    omega
  go_enter Tryz.func52, Tryz.ntmps52
  go_wp2_with fail
  obtain ⟨W, hW, bR, bB, bO, hbW, hsW⟩ := boxes3 w [.int .i64 0, .slice none 0 0, .slice none 0 0] [.slice a zs.length c, .int .i64 0, .bool false] [.int .i64 0, .slice none 0 0, .slice none 0 0] 25 62 25
  rw [hW.out]
  clear hW
  refine (l2Next_any (w.heap.size + 1) a c zs (0, false) W bB (hr.below hbW) (by omega)).mono ?_
  rintro e w1 ⟨⟨rfl, hb1⟩, hw1⟩
  generalize nextOf zs (0, false) = Y at *
  have hs1 := hw1.size
  have B1 : Below w.heap.size w w1 := hbW.trans (hw1.below (by omega) (by omega))
  have bO1 := bO.within hw1 (by omega)
  have bR1 := bR.within hw1 (by omega)
  have x10 := bO1.cell 0 _ rfl
  have f10 := bO1.frozen 0
  go_wp2_with fail
  obtain ⟨W2, hW2, bO2, hw2, hs2⟩ := box_set bO1 0 (.int .i64 Y.1)
  rw [hW2.out]
  clear hW2
  simp only [List.set] at bO2
  have rd2 : RdAt W2 (w.heap.size + 1) a c zs Y.2 := Box.within hb1 hw2 (by omega)
  have bR2 := bR1.within hw2 (by omega)
  have B2 : Below w.heap.size w W2 := B1.trans (hw2.below (by omega) (by omega))
  refine (l2List_any (w.heap.size + 1) a c zs Y.2 5 W2 rd2 (hr.below B2) (by omega) (by omega) HBR.out).mono ?_
  rintro e w3 ⟨aI, cI, L1, rfl, hn1, HL1, rd3, ho3, hw3⟩
  generalize listOf zs 5 Y.2 = Z1 at *
  have hs3 := hw3.size
  have B3 : Below w.heap.size w w3 := B2.trans (hw3.below (by omega) (by omega))
  have bO3 := bO2.within hw3 (by omega)
  have bR3 := bR2.within hw3 (by omega)
  have x31 := bO3.cell 1 _ rfl
  have f31 := bO3.frozen 1
  go_wp2_with fail
  obtain ⟨W4, hW4, bO4, hw4, hs4⟩ := box_set bO3 1 (.slice aI L1.length cI)
  rw [hW4.out]
  clear hW4
  simp only [List.set] at bO4
  have rd4 : RdAt W4 (w.heap.size + 1) a c zs Z1.2 := Box.within rd3 hw4 (by omega)
  have bR4 := bR3.within hw4 (by omega)
  have ho4 : OwnI W4 W2.heap.size w3.heap.size aI cI L1 := ho3.within hw4 (.inr (by omega))
  have B4 : Below w.heap.size w W4 := B3.trans (hw4.below (by omega) (by omega))
  refine (l2List_any (w.heap.size + 1) a c zs Z1.2 5 W4 rd4 (hr.below B4) (by omega) (by omega) HBR.out).mono ?_
  rintro e w5 ⟨aR, cR, L2, rfl, hn2, HL2, rd5, ho5, hw5⟩
  generalize listOf zs 5 Z1.2 = Z2 at *
  have hs5 := hw5.size
  have B5 : Below w.heap.size w w5 := B4.trans (hw5.below (by omega) (by omega))
  have bO5 := bO4.within hw5 (by omega)
  have bR5 := bR4.within hw5 (by omega)
  have ho45 : OwnI w5 W2.heap.size w3.heap.size aI cI L1 := ho4.within hw5 (.inr (by omega))
  have x52 := bO5.cell 2 _ rfl
  have f52 := bO5.frozen 2
  obtain ⟨W6, hW6, bO6, hw6, hs6⟩ := box_set bO5 2 (.slice aR L2.length cR)
  simp only [List.set] at bO6
  have rd6 : RdAt W6 (w.heap.size + 1) a c zs Z2.2 := Box.within rd5 hw6 (by omega)
  have bR6 := bR5.within hw6 (by omega)
  have ho46 : OwnI W6 W2.heap.size w3.heap.size aI cI L1 := ho45.within hw6 (.inr (by omega))
  have ho56 : OwnI W6 W4.heap.size w5.heap.size aR cR L2 := ho5.within hw6 (.inr (by omega))
  have B6 : Below w.heap.size w W6 := B5.trans (hw6.below (by omega) (by omega))
  have HO : Hid (readO zs = (⟨Y.1, L1, L2⟩, Z2.2.2)) := by rw [Hid, HRO.out, HL1.out, HL2.out]
  rw [HO.out] at HGR
  clear HRO HO HL1 HL2 rd2 rd3 rd4 rd5 bR1 bR2 bR3 bR4 bR5 bO1 bO2 bO3 bO4 B1 B2 B3 B4 ho3 ho4 ho5 ho45 bO bR bB hb1
  obtain ⟨k, sY⟩ := Y
  obtain ⟨lZ, p2, bd⟩ := Z2
  unfold RdAt at rd6
  simp only at *
  have r2 := rd6.cell 2 _ rfl
  have hB6 := bR6.lt
  have HPF : Hid (¬ (bd = false ∧ okB ⟨k, L1, L2⟩ = true ∧ putObjOf ⟨k, L1, L2⟩ = zs) → getPair zs = (noO, false)) := by
    intro h
    unfold getPair
    rw [HGR.out, if_neg h]
  have HPT : Hid (bd = false → okB ⟨k, L1, L2⟩ = true → putObjOf ⟨k, L1, L2⟩ = zs → getPair zs = (⟨k, L1, L2⟩, true)) := by
    intro h1 h2 h3
    unfold getPair
    rw [HGR.out, if_pos ⟨h1, h2, h3⟩]
  -- what is answered where it is none
  have fail : ∀ w', Below (w.heap.size + 1) W6 w' → Box w' w.heap.size [.int .i64 0, .slice none 0 0, .slice none 0 0] 25 := fun w' hh => bR6.below hh (by omega)
  have W6e := hW6.out
  cases bd with
  | true =>
    have HP : Hid (_ = _) := HPF.out (by simp)
    have g0 := bR6.cell 0 _ rfl
    have g1 := bR6.cell 1 _ rfl
    have g2 := bR6.cell 2 _ rfl
    have e0 := bR6.frozen 0
    have e1 := bR6.frozen 1
    have e2 := bR6.frozen 2
    have bF := ((bR6.set 0 (.int .i64 0)).set 1 (.slice none 0 0)).set 2 (.slice none 0 0)
    simp only [List.set] at bF
    have hwF : Within w.heap.size (w.heap.size + 1) W6 _ := ((within_set W6 w.heap.size 0 (.int .i64 0) (by omega)).trans (within_set _ w.heap.size 1 (.slice none 0 0) (by omega))).trans (within_set _ w.heap.size 2 (.slice none 0 0) (by omega))
    have HF : Hid (_ ∧ _ ∧ _ ∧ _) := ⟨bF.cell 0 _ rfl, bF.cell 1 _ rfl, bF.cell 2 _ rfl, hwF⟩
    clear bF hwF
    go_wp2
    obtain ⟨q0, q1, q2, hwF⟩ := HF.out
    generalize ((W6.setCell ⟨w.heap.size, 0, none⟩ (.int .i64 0)).setCell ⟨w.heap.size, 1, none⟩ (.slice none 0 0)).setCell ⟨w.heap.size, 2, none⟩ (.slice none 0 0) = WF at *
    refine bodyPost_ret (v := .tuple #[.agg #[.int .i64 0, .slice none 0 0, .slice none 0 0], .bool false]) (by simp [results, Tryz.results52, go_sem, q0, q1, q2]) rfl ⟨none, 0, none, 0, noO, false, rfl, HP.out, ⟨ownI_nil _ _ _ (Nat.le_refl _), ownI_nil _ _ _ (Nat.le_refl _), fun k hk => by cases hk⟩, B6.trans (hwF.below (Nat.le_refl _) (by omega))⟩
  | false =>
    have c0 := bO6.cell 0 _ rfl
    have c1 := bO6.cell 1 _ rfl
    have c2 := bO6.cell 2 _ rfl
    have hrO : ReadsO W6 aI cI aR cR ⟨k, L1, L2⟩ := ⟨ho46.reads, ho56.reads, ho46.nocap, ho56.nocap⟩
    have hok := specObjOk_any ⟨k, L1, L2⟩ aI cI aR cR W6 hrO (by simp only; omega) (by simp only; omega)
    go_wp2_with fail
    refine hok.mono ?_
    clear hok
    rintro e w7 ⟨rfl, hb7⟩
    have B7 : Below w.heap.size w w7 := B6.trans (hb7.mono (by omega))
    have bR7 := bR6.below hb7 (by omega)
    have bO7 := bO6.below hb7 bO6.lt
    have hs7 := hb7.size
    cases hB : okB ⟨k, L1, L2⟩ with
    | false =>
      have HP : Hid (_ = _) := HPF.out (by rw [hB]; simp)
      clear hB
      have g0 := (bR7).cell 0 _ rfl
      have g1 := (bR7).cell 1 _ rfl
      have g2 := (bR7).cell 2 _ rfl
      have e0 := (bR7).frozen 0
      have e1 := (bR7).frozen 1
      have e2 := (bR7).frozen 2
      have bF := (((bR7).set 0 (.int .i64 0)).set 1 (.slice none 0 0)).set 2 (.slice none 0 0)
      simp only [List.set] at bF
      have hwF : Within w.heap.size (w.heap.size + 1) w7 _ := ((within_set w7 w.heap.size 0 (.int .i64 0) (by omega)).trans (within_set _ w.heap.size 1 (.slice none 0 0) (by omega))).trans (within_set _ w.heap.size 2 (.slice none 0 0) (by omega))
      have HF : Hid (_ ∧ _ ∧ _ ∧ _) := ⟨bF.cell 0 _ rfl, bF.cell 1 _ rfl, bF.cell 2 _ rfl, hwF⟩
      clear bF hwF
      go_wp2
      obtain ⟨q0, q1, q2, hwF⟩ := HF.out
      generalize ((w7.setCell ⟨w.heap.size, 0, none⟩ (.int .i64 0)).setCell ⟨w.heap.size, 1, none⟩ (.slice none 0 0)).setCell ⟨w.heap.size, 2, none⟩ (.slice none 0 0) = WF at *
      refine bodyPost_ret (v := .tuple #[.agg #[.int .i64 0, .slice none 0 0, .slice none 0 0], .bool false]) (by simp [results, Tryz.results52, go_sem, q0, q1, q2]) rfl ⟨none, 0, none, 0, noO, false, rfl, HP.out, ⟨ownI_nil _ _ _ (Nat.le_refl _), ownI_nil _ _ _ (Nat.le_refl _), fun k hk => by cases hk⟩, (B7).trans (hwF.below (Nat.le_refl _) (by have := (B7).size; omega))⟩
    | true =>
      have HOK : Hid (_ = _) := hB
      clear hB
      have d0 := bO7.cell 0 _ rfl
      have d1 := bO7.cell 1 _ rfl
      have d2 := bO7.cell 2 _ rfl
      have hput := specPutObj_any ⟨k, L1, L2⟩ aI cI aR cR w7 (hrO.below hb7) (by simp only; omega) (by simp only; omega)
      go_wp2_with fail
      refine hput.mono ?_
      clear hput
      rintro e w8 ⟨a8, c8, y8, rfl, HY8, ho8, hb8⟩
      have B8 : Below w.heap.size w w8 := B7.trans (hb8.mono (by omega))
      have hs8 := hb8.size
      have hyl : y8.length ≤ 1000000 := by
        have h1 := putList_len L1
        have h2 := putList_len L2
        have h3 := (putOf_len k).2
        have h4 := put_ok HOK.out
        rw [HY8.out, h4, List.length_append, List.length_append]
        simp only
        omega
      have hsm := l2Same_any a8 a c8 c y8 zs w8 ho8.reads (hr.below B8) (by omega) hl
      go_wp2_with fail
      refine hsm.mono ?_
      clear hsm
      rintro e w9 ⟨rfl, n9, rfl⟩
      have B9 : Below w.heap.size w (w8.drewN n9) := below_drewN B8 n9
      have hb79 : Below w7.heap.size w7 (w8.drewN n9) := below_drewN hb8 n9
      have bR9 := bR7.below hb79 (by omega)
      have bO9 := bO7.below hb79 bO7.lt
      have ho49 := (ho46.below hb7).below hb79
      have ho59 := (ho56.below hb7).below hb79
      have hs9 : w7.heap.size ≤ (w8.drewN n9).heap.size := hb79.size
      have HD1 : Hid (decide (y8 = zs) = false → getPair zs = (noO, false)) := by
        intro h
        apply HPF.out
        rintro ⟨_, _, h3⟩
        rw [decide_eq_false_iff_not] at h
        exact h (HY8.out.trans h3)
      have HD2 : Hid (decide (y8 = zs) = true → getPair zs = (⟨k, L1, L2⟩, true)) := by
        intro h
        rw [decide_eq_true_eq] at h
        exact HPT.out (by first | rfl | trivial) HOK.out (HY8.out.symm.trans h)
      generalize w8.drewN n9 = w9 at *
      generalize decide (y8 = zs) = D at *
      cases D with
      | false =>
        have HP : Hid (_ = _) := HD1.out rfl
        have g0 := (bR9).cell 0 _ rfl
        have g1 := (bR9).cell 1 _ rfl
        have g2 := (bR9).cell 2 _ rfl
        have e0 := (bR9).frozen 0
        have e1 := (bR9).frozen 1
        have e2 := (bR9).frozen 2
        have bF := (((bR9).set 0 (.int .i64 0)).set 1 (.slice none 0 0)).set 2 (.slice none 0 0)
        simp only [List.set] at bF
        have hwF : Within w.heap.size (w.heap.size + 1) w9 _ := ((within_set w9 w.heap.size 0 (.int .i64 0) (by omega)).trans (within_set _ w.heap.size 1 (.slice none 0 0) (by omega))).trans (within_set _ w.heap.size 2 (.slice none 0 0) (by omega))
        have HF : Hid (_ ∧ _ ∧ _ ∧ _) := ⟨bF.cell 0 _ rfl, bF.cell 1 _ rfl, bF.cell 2 _ rfl, hwF⟩
        clear bF hwF
        go_wp2
        obtain ⟨q0, q1, q2, hwF⟩ := HF.out
        generalize ((w9.setCell ⟨w.heap.size, 0, none⟩ (.int .i64 0)).setCell ⟨w.heap.size, 1, none⟩ (.slice none 0 0)).setCell ⟨w.heap.size, 2, none⟩ (.slice none 0 0) = WF at *
        refine bodyPost_ret (v := .tuple #[.agg #[.int .i64 0, .slice none 0 0, .slice none 0 0], .bool false]) (by simp [results, Tryz.results52, go_sem, q0, q1, q2]) rfl ⟨none, 0, none, 0, noO, false, rfl, HP.out, ⟨ownI_nil _ _ _ (Nat.le_refl _), ownI_nil _ _ _ (Nat.le_refl _), fun k hk => by cases hk⟩, (B9).trans (hwF.below (Nat.le_refl _) (by have := (B9).size; omega))⟩
      | true =>
        have HP : Hid (_ = _) := HD2.out rfl
        have m0 := bO9.cell 0 _ rfl
        have m1 := bO9.cell 1 _ rfl
        have m2 := bO9.cell 2 _ rfl
        have g0 := (bR9).cell 0 _ rfl
        have g1 := (bR9).cell 1 _ rfl
        have g2 := (bR9).cell 2 _ rfl
        have e0 := (bR9).frozen 0
        have e1 := (bR9).frozen 1
        have e2 := (bR9).frozen 2
        have bF := (((bR9).set 0 (.int .i64 k)).set 1 (.slice aI L1.length cI)).set 2 (.slice aR L2.length cR)
        simp only [List.set] at bF
        have hwF : Within w.heap.size (w.heap.size + 1) w9 _ := ((within_set w9 w.heap.size 0 (.int .i64 k) (by omega)).trans (within_set _ w.heap.size 1 (.slice aI L1.length cI) (by omega))).trans (within_set _ w.heap.size 2 (.slice aR L2.length cR) (by omega))
        have HF : Hid (_ ∧ _ ∧ _ ∧ _) := ⟨bF.cell 0 _ rfl, bF.cell 1 _ rfl, bF.cell 2 _ rfl, hwF⟩
        clear bF hwF
        go_wp2
        obtain ⟨q0, q1, q2, hwF⟩ := HF.out
        generalize ((w9.setCell ⟨w.heap.size, 0, none⟩ (.int .i64 k)).setCell ⟨w.heap.size, 1, none⟩ (.slice aI L1.length cI)).setCell ⟨w.heap.size, 2, none⟩ (.slice aR L2.length cR) = WF at *
        have hsF := hwF.size
        refine bodyPost_ret (v := .tuple #[.agg #[.int .i64 k, .slice aI L1.length cI, .slice aR L2.length cR], .bool true]) (by simp [results, Tryz.results52, go_sem, q0, q1, q2]) rfl ⟨aI, cI, aR, cR, ⟨k, L1, L2⟩, true, rfl, HP.out, ⟨(ho49.within hwF (.inr (by omega))).widen (by omega) (by omega) (Nat.le_refl _), (ho59.within hwF (.inr (by omega))).widen (by omega) (by omega) (Nat.le_refl _), fun j hj hj' => by have := (ho46.lt j hj).2; have := (ho56.lt j hj').1; omega⟩, B9.trans (hwF.below (Nat.le_refl _) (by have := B9.size; omega))⟩
end Go.Proofs.YtjaojcgfgkppgaaGreatDoor

/- The walk of spec.l3NextSlot. -/
namespace Go.Proofs.YtjaojcgfgkppgaaGreatDoor
open Go.RowKit

theorem nextSlot_bad {zs : List Int} {s : Int × Bool} {n : Int} {st : Int × Bool} (h : nextOf zs s = (n, st)) (hb : st.2 = true ∨ n = 0) : nextSlotOf zs s = (noS, st) := by unfold nextSlotOf; rw [h]; simp only; rw [if_pos hb]
theorem nextSlot_out {zs : List Int} {s : Int × Bool} {n p : Int} (h : nextOf zs s = (n, (p, false))) (h0 : ¬ n = 0) (hb : n < 0 ∨ (zs.length : Int) - p < n) : nextSlotOf zs s = (noS, (p, true)) := by
  unfold nextSlotOf; rw [h]; simp only; rw [if_neg (by simp [h0]), if_pos hb]
theorem nextSlot_in {zs : List Int} {s : Int × Bool} {m p : Nat} (h : nextOf zs s = ((m : Int), ((p : Int), false))) (h0 : 0 < m) (hb : p + m ≤ zs.length) :
    nextSlotOf zs s = (⟨true, (getPair ((zs.drop p).take m)).1⟩, ((p : Int) + (m : Int), !(getPair ((zs.drop p).take m)).2)) := by
  unfold nextSlotOf; rw [h]; simp only [Int.toNat_natCast]; rw [if_neg (by simp; omega), if_neg (by omega)]
theorem next_place {zs : List Int} {s : Int × Bool} {n p : Int} (h : nextOf zs s = (n, (p, false))) : ∃ k : Nat, p = (k : Int) ∧ k ≤ zs.length := by
  unfold nextOf at h
  split at h
  · rename_i x r h1 h2
    simp only [Prod.mk.injEq] at h
    exact ⟨r.2, h.2.1.symm, (getAt_bd zs s.1 r.1 r.2 h2).1⟩
  · simp only [Prod.mk.injEq] at h
    exact absurd h.2.2 (by simp)
theorem reads_within {w w' : World} {a : Option Addr} {zs : List Int} {B : Nat} (hr : Reads w a zs) (hw : Within B (B + 1) w w') (hB : zs ≠ [] → ∀ b off, a = some ⟨b, off, none⟩ → b ≠ B) : Reads w' a zs := by
  refine ⟨hr.1, fun hne => ?_⟩
  obtain ⟨b, off, ha, hc⟩ := hr.2 hne
  refine ⟨b, off, ha, fun i hi => ?_⟩
  have hlt := block_lt (hc i hi)
  have hb := hB hne b off ha
  have := World.cell?_of_block (w := w) (w' := w') (a := ⟨b, off + i, none⟩) (hw.block b hlt (by omega))
  rw [this]
  exact hc i hi
theorem own_zero (w : World) (lo hi : Nat) (h : hi ≤ w.heap.size) : zeroS.own w lo hi := ⟨ownI_nil _ _ _ h, ownI_nil _ _ _ h, fun k hk => by cases hk⟩

set_option maxHeartbeats 4000000 in
set_option maxRecDepth 100000 in
theorem l3NextSlot_any (B : Nat) (a : Option Addr) (c : Nat) (zs : List Int) (s : Int × Bool) (w : World) (hb : RdAt w B a c zs s) (hr : Reads w a zs) (hl : zs.length ≤ 1099511627776) (hcap : zs.length ≤ c) (hB : zs ≠ [] → ∀ b off, a = some ⟨b, off, none⟩ → b ≠ B) :
    Calls Tryz.prog 23 #[.pointer (some ⟨B, 0, none⟩)] w fun e w' => ∃ t : SlotA, e = .returned (.agg t.cells.toArray) ∧ Hid (t.v = (nextSlotOf zs s).1) ∧ t.own w' w.heap.size w'.heap.size ∧ RdAt w' B a c zs (nextSlotOf zs s).2 ∧ Within B (B + 1) w w' := by
  have hBw := hb.lt
  obtain ⟨W, hW, b0, hbW, hsW⟩ := boxes1 w [.bool false, .int .i64 0, .slice none 0 0, .slice none 0 0] 27
  have hbr : RdAt W B a c zs s := Box.below hb hbW hBw
  have HBD : Hid (∀ n st, nextOf zs s = (n, st) → (st.2 = true ∨ n = 0) → nextSlotOf zs s = (noS, st)) := fun n st h1 h2 => nextSlot_bad h1 h2
  have HOT : Hid (∀ n p, nextOf zs s = (n, (p, false)) → ¬ n = 0 → (n < 0 ∨ (zs.length : Int) - p < n) → nextSlotOf zs s = (noS, (p, true))) := fun n p h1 h2 h3 => nextSlot_out h1 h2 h3
  have HIN : Hid (∀ (m p : Nat), nextOf zs s = ((m : Int), ((p : Int), false)) → 0 < m → p + m ≤ zs.length → nextSlotOf zs s = (⟨true, (getPair ((zs.drop p).take m)).1⟩, ((p : Int) + (m : Int), !(getPair ((zs.drop p).take m)).2))) := fun m p h1 h2 h3 => nextSlot_in h1 h2 h3
  have HPL : Hid (∀ n p, nextOf zs s = (n, (p, false)) → ∃ k : Nat, p = (k : Int) ∧ k ≤ zs.length) := fun n p h => next_place h
  generalize nextSlotOf zs s = R at *
  go_enter Tryz.func23, Tryz.ntmps23
  go_wp2_with fail
  rw [hW.out]
  clear hW
  refine (l2Next_any B a c zs s W hbr (hr.below hbW) (by omega)).mono ?_
  rintro e w1 ⟨⟨rfl, hb1⟩, hw1⟩
  have HN : Hid (nextOf zs s = nextOf zs s) := rfl
  generalize hY : nextOf zs s = Y at *
  clear hY HN
  obtain ⟨n, p, bad⟩ := Y
  simp only at *
  unfold RdAt at hb1
  simp only at hb1
  have b01 := b0.within hw1 (by omega)
  have hs1 := hw1.size
  have y0 := hb1.cell 0 _ rfl
  have y1 := hb1.cell 1 _ rfl
  have y2 := hb1.cell 2 _ rfl
  have g1 := hb1.frozen 1
  have g2 := hb1.frozen 2
  obtain ⟨x0, x1, x2, x3, f0, f1, f2, f3⟩ := b01.four
  have HW1 : Hid (Within B (B + 1) w w1) := (Within.of_below hbW).trans hw1
  have hr1 := reads_within (hr.below hbW) hw1 hB
  have hWw : W.heap.size = w.heap.size + 1 := hsW
  clear hsW
  by_cases hz : bad = true ∨ n = 0
  · have HR : Hid (R = (noS, (p, bad))) := HBD.out n (p, bad) rfl hz
    clear HBD HOT HIN HPL
    obtain ⟨WF, hWF, bF, hwF, hsF⟩ := box4_fill b01 (.bool false) (.int .i64 0) (.slice none 0 0) (.slice none 0 0)
    have HRD : Hid (Box WF B [.slice a zs.length c, .int .i64 p, .bool bad] 62) := hb1.within hwF (by omega)
    have HWF : Hid (Within B (B + 1) w WF) := ⟨hwF.os.trans HW1.out.os, hwF.tape.trans HW1.out.tape, hwF.output.trans HW1.out.output, Nat.le_trans HW1.out.size hwF.size, fun k hk hn => (hwF.block k (by omega) (by omega)).trans (HW1.out.block k hk hn)⟩
    have HEND : Hid (∃ t : SlotA, Ending.returned (.agg #[.bool false, .int .i64 0, .slice none 0 0, .slice none 0 0]) = .returned (.agg t.cells.toArray) ∧ Hid (t.v = R.1) ∧ t.own WF w.heap.size WF.heap.size ∧ RdAt WF B a c zs R.2 ∧ Within B (B + 1) w WF) :=
      ⟨zeroS, rfl, by rw [HR.out]; rfl, own_zero _ _ _ (Nat.le_refl _), by rw [HR.out]; exact HRD.out, HWF.out⟩
    clear hwF hb1 HW1 b01 hr1 HRD HWF
    cases bad with
    | true =>
      go_wp2
      rw [hWF.out]
      obtain ⟨q0, q1, q2, q3, _⟩ := bF.four
      exact bodyPost_ret (v := .agg #[.bool false, .int .i64 0, .slice none 0 0, .slice none 0 0]) (by simp [results, Tryz.results23, go_sem, q0, q1, q2, q3]) rfl HEND.out
    | false =>
      have hn0 : n = 0 := by simpa using hz
      subst hn0
      clear hz
      go_wp2
      rw [hWF.out]
      obtain ⟨q0, q1, q2, q3, _⟩ := bF.four
      exact bodyPost_ret (v := .agg #[.bool false, .int .i64 0, .slice none 0 0, .slice none 0 0]) (by simp [results, Tryz.results23, go_sem, q0, q1, q2, q3]) rfl HEND.out
  obtain ⟨hbd, hn0⟩ : bad = false ∧ ¬ n = 0 := by
    refine ⟨?_, fun e => hz (.inr e)⟩
    cases bad
    · rfl
    · exact absurd (.inl rfl) hz
  subst hbd
  have hn0b : (n == 0) = false := by simpa using hn0
  obtain ⟨k, rfl, hkl⟩ := HPL.out n p rfl
  by_cases ho : n < 0 ∨ (zs.length : Int) - (k : Int) < n
  · have HR : Hid (R = (noS, ((k : Int), true))) := HOT.out n k rfl hn0 ho
    clear HBD HOT HIN HPL hz hn0
    by_cases hneg : n < 0
    · have hd : decide (n < 0) = true := decide_eq_true hneg
      clear ho hneg
      go_wp2_with fail
      go_quiet (fail)
      have hb2 := hb1.drewN nq
      have b02 := b01.drewN nq
      have HW2 : Hid (Within B (B + 1) w (w1.drewN nq)) := HW1.out.drewN nq
      have hs2 : w.heap.size + 1 ≤ (w1.drewN nq).heap.size := by have : (w1.drewN nq).heap.size = w1.heap.size := (by first | rfl | simp); omega
      clear hb1 b01 HW1 x0 x1 x2 x3 f0 f1 f2 f3 y0 y1 y2 g1 g2 hr1
      generalize w1.drewN nq = w2 at *
      have y2 := hb2.cell 2 _ rfl
      have g2 := hb2.frozen 2
      obtain ⟨WB, hWB, bB, hwB, hsB⟩ := box_set hb2 2 (.bool true)
      simp only [List.set] at bB
      have b03 := b02.within hwB (by omega)
      obtain ⟨z0, z1, z2, z3, e0, e1, e2, e3⟩ := b03.four
      obtain ⟨WF, hWF, bF, hwF, hsF⟩ := box4_fill b03 (.bool false) (.int .i64 0) (.slice none 0 0) (.slice none 0 0)
      have HRD : Hid (Box WF B [.slice a zs.length c, .int .i64 (k : Int), .bool true] 62) := bB.within hwF (by omega)
      have HWB : Hid (Within B (B + 1) w WB) := HW2.out.trans hwB
      have HWF : Hid (Within B (B + 1) w WF) := ⟨hwF.os.trans HWB.out.os, hwF.tape.trans HWB.out.tape, hwF.output.trans HWB.out.output, Nat.le_trans HWB.out.size hwF.size, fun k hk hn => (hwF.block k (by omega) (by omega)).trans (HWB.out.block k hk hn)⟩
      have HEND : Hid (∃ t : SlotA, Ending.returned (.agg #[.bool false, .int .i64 0, .slice none 0 0, .slice none 0 0]) = .returned (.agg t.cells.toArray) ∧ Hid (t.v = R.1) ∧ t.own WF w.heap.size WF.heap.size ∧ RdAt WF B a c zs R.2 ∧ Within B (B + 1) w WF) :=
        ⟨zeroS, rfl, by rw [HR.out]; rfl, own_zero _ _ _ (Nat.le_refl _), by rw [HR.out]; exact HRD.out, HWF.out⟩
      have WBe := hWB.out
      rw [← WBe] at z0 z1 z2 z3 e0 e1 e2 e3
      rw [← WBe] at hWF
      clear hwF hwB hb2 HW2 b02 b03 HRD HWB HWF WBe hWB bB
      go_wp2
      rw [hWF.out]
      obtain ⟨q0, q1, q2, q3, _⟩ := bF.four
      exact bodyPost_ret (v := .agg #[.bool false, .int .i64 0, .slice none 0 0, .slice none 0 0]) (by simp [results, Tryz.results23, go_sem, q0, q1, q2, q3]) rfl HEND.out
    · have hd : decide (n < 0) = false := decide_eq_false hneg
      have hgt : (zs.length : Int) - (k : Int) < n := by rcases ho with h | h; exact absurd h hneg; exact h
      have hd2 : decide ((zs.length : Int) - (k : Int) < n) = true := decide_eq_true hgt
      clear ho hneg
      go_wp2_with fail
      go_quiet (fail)
      have hb2 := hb1.drewN nq
      have b02 := b01.drewN nq
      have HW2 : Hid (Within B (B + 1) w (w1.drewN nq)) := HW1.out.drewN nq
      have hs2 : w.heap.size + 1 ≤ (w1.drewN nq).heap.size := by have : (w1.drewN nq).heap.size = w1.heap.size := (by first | rfl | simp); omega
      clear hb1 b01 HW1 x0 x1 x2 x3 f0 f1 f2 f3 y0 y1 y2 g1 g2 hr1
      generalize w1.drewN nq = w2 at *
      have y2 := hb2.cell 2 _ rfl
      have g2 := hb2.frozen 2
      obtain ⟨WB, hWB, bB, hwB, hsB⟩ := box_set hb2 2 (.bool true)
      simp only [List.set] at bB
      have b03 := b02.within hwB (by omega)
      obtain ⟨z0, z1, z2, z3, e0, e1, e2, e3⟩ := b03.four
      obtain ⟨WF, hWF, bF, hwF, hsF⟩ := box4_fill b03 (.bool false) (.int .i64 0) (.slice none 0 0) (.slice none 0 0)
      have HRD : Hid (Box WF B [.slice a zs.length c, .int .i64 (k : Int), .bool true] 62) := bB.within hwF (by omega)
      have HWB : Hid (Within B (B + 1) w WB) := HW2.out.trans hwB
      have HWF : Hid (Within B (B + 1) w WF) := ⟨hwF.os.trans HWB.out.os, hwF.tape.trans HWB.out.tape, hwF.output.trans HWB.out.output, Nat.le_trans HWB.out.size hwF.size, fun k hk hn => (hwF.block k (by omega) (by omega)).trans (HWB.out.block k hk hn)⟩
      have HEND : Hid (∃ t : SlotA, Ending.returned (.agg #[.bool false, .int .i64 0, .slice none 0 0, .slice none 0 0]) = .returned (.agg t.cells.toArray) ∧ Hid (t.v = R.1) ∧ t.own WF w.heap.size WF.heap.size ∧ RdAt WF B a c zs R.2 ∧ Within B (B + 1) w WF) :=
        ⟨zeroS, rfl, by rw [HR.out]; rfl, own_zero _ _ _ (Nat.le_refl _), by rw [HR.out]; exact HRD.out, HWF.out⟩
      have WBe := hWB.out
      rw [← WBe] at z0 z1 z2 z3 e0 e1 e2 e3
      rw [← WBe] at hWF
      clear hwF hwB hb2 HW2 b02 b03 HRD HWB HWF WBe hWB bB
      go_wp2
      rw [hWF.out]
      obtain ⟨q0, q1, q2, q3, _⟩ := bF.four
      exact bodyPost_ret (v := .agg #[.bool false, .int .i64 0, .slice none 0 0, .slice none 0 0]) (by simp [results, Tryz.results23, go_sem, q0, q1, q2, q3]) rfl HEND.out
  · obtain ⟨m, rfl⟩ : ∃ m : Nat, n = (m : Int) := ⟨n.toNat, by omega⟩
    have hm0 : 0 < m := by omega
    have hkm : k + m ≤ zs.length := by omega
    have HR : Hid (R = _) := HIN.out m k rfl hm0 hkm
    have hd : decide ((m : Int) < 0) = false := decide_eq_false (by omega)
    have hd2 : decide ((zs.length : Int) - (k : Int) < (m : Int)) = false := decide_eq_false (by omega)
    clear HBD HOT HIN HPL hz ho hn0
    go_wp2_with fail
    go_quiet (fail)
    have hb2 := hb1.drewN nq
    have b02 := b01.drewN nq
    have hr2 : Reads (w1.drewN nq) a zs := hr1.below (below_drewN (Below.refl _ _) nq)
    have HW2 : Hid (Within B (B + 1) w (w1.drewN nq)) := HW1.out.drewN nq
    have hs2 : w.heap.size + 1 ≤ (w1.drewN nq).heap.size := by have : (w1.drewN nq).heap.size = w1.heap.size := (by first | rfl | simp); omega
    clear hb1 b01 HW1 x0 x1 x2 x3 f0 f1 f2 f3 y0 y1 y2 g1 g2 hr1
    generalize w1.drewN nq = w2 at *
    rcases hr2.cases with rfl | ⟨b, off, rfl, hpos, hcell⟩
    · simp at hkm; omega
    clear hcell
    have hsub := reads_slice hr2 k m hkm
    have hadd : (⟨b, off, none⟩ : Addr).add k = ⟨b, off + k, none⟩ := by unfold Addr.add; split <;> simp_all
    rw [Option.map_some, hadd] at hsub
    clear hadd
    have hsl : ((zs.drop k).take m).length = m := by rw [List.length_take, List.length_drop]; omega
    have HSL : Hid (_ = _) := hsl
    have hBB : b ≠ B := hB (by intro e; simp [e] at hpos) b off rfl
    generalize hsu : (zs.drop k).take m = sub at *
    clear hsu hsl
    have hck : ¬ c = k := by omega
    have hi1 : (0 : Int) ≤ (k : Int) := by omega
    have hi2 : (k : Int) ≤ (k : Int) + (m : Int) := by omega
    have hi3 : (k : Int) + (m : Int) ≤ (c : Int) := by omega
    have hi4 : (0 : Int) ≤ (k : Int) + (m : Int) := by omega
    have hwr : IntKind.i64.wrap ((k : Int) + (m : Int)) = (k : Int) + (m : Int) := by rw [IntKind.wrap_i64]; omega
    have htn : ((k : Int) + (m : Int)).toNat - k = m := by omega
    have HG : Hid (∀ w', Below w2.heap.size w2 w' → Calls Tryz.prog 52 #[.slice (some ⟨b, off + k, none⟩) m (c - k)] w' fun e w'' => ∃ aI cI aR cR o ok, e = .returned (.tuple #[.agg #[.int .i64 o.kind, .slice aI o.ints.length cI, .slice aR o.refs.length cR], .bool ok]) ∧ Hid (getPair sub = (o, ok)) ∧ OwnO w'' w'.heap.size w''.heap.size aI cI aR cR o ∧ Below w'.heap.size w' w'') := by
      intro w' hh
      have C := specGetObj_any (some ⟨b, off + k, none⟩) (c - k) sub w' (hsub.below hh) (by rw [HSL.out]; omega)
      rw [HSL.out] at C
      exact C
    go_upto_region 7 with fail
    go_cut [4, 5] from 6 (fun x y wx => ∃ (Bo : Nat) (o : ObjV) (aI : Option Addr) (cI : Nat) (aR : Option Addr) (cR : Nat), x = .pointer (some ⟨Bo, 0, none⟩) ∧ y = .bool (getPair sub).2 ∧ Hid (o = (getPair sub).1) ∧ Box wx Bo [.int .i64 o.kind, .slice aI o.ints.length cI, .slice aR o.refs.length cR] 25 ∧ OwnO wx w2.heap.size wx.heap.size aI cI aR cR o ∧ w2.heap.size ≤ Bo ∧ Below w2.heap.size w2 wx)
    case first =>
      have y0 := hb2.cell 0 _ rfl
      have y1 := hb2.cell 1 _ rfl
      have HB : Hid (∀ w'', Below w2.heap.size w2 w'' → w''.cell? ⟨B, 0, none⟩ = some (.slice (some ⟨b, off, none⟩) zs.length c) ∧ w''.cell? ⟨B, 1, none⟩ = some (.int .i64 (k : Int))) := fun w'' hh => ⟨(hb2.below hh hb2.lt).cell 0 _ rfl, (hb2.below hh hb2.lt).cell 1 _ rfl⟩
      have HBB : Hid (∀ w'', Below w2.heap.size w2 w'' → Box w'' B [.slice (some ⟨b, off, none⟩) zs.length c, .int .i64 (k : Int), .bool false] 62) := fun w'' hh => hb2.below hh hb2.lt
      have hne : ¬ (B = w2.heap.size) := by have := hb2.lt; omega
      have HBX : Hid (∀ u, Below (w2.alloc (.cells #[.int .i64 0, .slice none 0 0, .slice none 0 0] 25)).drew.heap.size (w2.alloc (.cells #[.int .i64 0, .slice none 0 0, .slice none 0 0] 25)).drew u → Box u w2.heap.size [.int .i64 0, .slice none 0 0, .slice none 0 0] 25) := fun u hu => Box.below (w := (w2.alloc (.cells #[.int .i64 0, .slice none 0 0, .slice none 0 0] 25)).drew) (box_new w2 _ _) hu (by simp [World.drew])
      go_region_held3 (fun w'' => w''.cell? ⟨B, 0, none⟩ = some (.slice (some ⟨b, off, none⟩) zs.length c) ∧ w''.cell? ⟨B, 1, none⟩ = some (.int .i64 (k : Int)))
        (first | exact HB.out _ hB1 | exact HB.out _ (Below.refl _ _).drew | exact HB.out _ (hB1.alloc hB1.size _) | exact HB.out _ (((Below.refl _ _).drew).alloc (Nat.le_refl _) _) | exact HB.out _ (((Below.refl _ _).alloc (Nat.le_refl _) _).drew) | exact ⟨((((HBB.out _ hB1).other hne).other hne).other hne).cell 0 _ rfl, ((((HBB.out _ hB1).other hne).other hne).other hne).cell 1 _ rfl⟩ | go_keep | fail)
        (first
        | (go_at_call 52; refine (HG.out _ (by first | exact (Below.refl _ _).drew | exact ((Below.refl _ _).alloc (Nat.le_refl _) _).drew | exact ((Below.refl _ _).drew).alloc (Nat.le_refl _) _ | fail)).mono ?_; rintro e u1 ⟨aI, cI, aR, cR, o, ok, rfl, hgp, ho1, hb1⟩; have hB1 : Below w2.heap.size w2 u1 := (by first | exact ((Below.refl _ _).drew).trans hb1 | exact (((Below.refl _ _).alloc (Nat.le_refl _) _).drew).trans (hb1.mono (by simp [World.drew])) | fail); (try (have bO := HBX.out u1 hb1; obtain ⟨m0, m1, m2, e0, e1, e2⟩ := bO.three)))
        | fail)
      · have hBA : Below w2.heap.size w2 (u1.alloc (.cells #[.int .i64 o.kind, .slice aI o.ints.length cI, .slice aR o.refs.length cR] 25)) := hB1.alloc hB1.size _
        have hOA : OwnO (u1.alloc (.cells #[.int .i64 o.kind, .slice aI o.ints.length cI, .slice aR o.refs.length cR] 25)) w2.heap.size (u1.alloc (.cells #[.int .i64 o.kind, .slice aI o.ints.length cI, .slice aR o.refs.length cR] 25)).heap.size aI cI aR cR o := (ho1.below ((Below.refl _ _).alloc (Nat.le_refl _) _)).widen (Nat.le_refl _) (by simp) (Nat.le_refl _)
        have hBX : Box (u1.alloc (.cells #[.int .i64 o.kind, .slice aI o.ints.length cI, .slice aR o.refs.length cR] 25)) u1.heap.size [.int .i64 o.kind, .slice aI o.ints.length cI, .slice aR o.refs.length cR] 25 := box_new _ _ _
        go_wp2_with fail
        go_meet
        case rel => exact ⟨u1.heap.size, o, aI, cI, aR, cR, rfl, by rw [hgp.out], by rw [Hid, hgp.out], hBX, hOA, hB1.size, hBA⟩
      · have bO := HBX.out u1 hb1
        obtain ⟨WF, hWF, bF, hwF, hsF⟩ := box3_fill bO (.int .i64 o.kind) (.slice aI o.ints.length cI) (.slice aR o.refs.length cR)
        have hsA : (w2.alloc (.cells #[.int .i64 0, .slice none 0 0, .slice none 0 0] 25)).drew.heap.size = w2.heap.size + 1 := by simp [World.drew]
        have hBF : Below w2.heap.size w2 WF := hB1.trans (hwF.below (Nat.le_refl _) hB1.size)
        have hOF : OwnO WF w2.heap.size WF.heap.size aI cI aR cR o := (ho1.within hwF (.inr (by omega))).widen (by omega) (by omega) (Nat.le_refl _)
        rw [hWF.out]
        clear hwF
        go_wp2_with fail
        go_meet
        case rel => exact ⟨w2.heap.size, o, aI, cI, aR, cR, rfl, by rw [hgp.out], by rw [Hid, hgp.out], bF, hOF, Nat.le_refl _, hBF⟩
    case rest =>
      obtain ⟨Bo, o, aI, cI, aR, cR, rfl, rfl, hoE, bO, oO, hBo, hbc⟩ := hcut
      generalize hGP : getPair sub = GP at *
      clear hGP
      have hsc := hbc.size
      have hb3 := hb2.below hbc hb2.lt
      have b03 := b02.below hbc b02.lt
      have hltO := bO.lt
      have hBlt := hb2.lt
      have y1 := hb3.cell 1 _ rfl
      have g1 := hb3.frozen 1
      obtain ⟨W4, hW4, b4, hw4, hs4⟩ := box_set hb3 1 (.int .i64 ((k : Int) + (m : Int)))
      simp only [List.set] at b4
      have y2 := b4.cell 2 _ rfl
      have g2 := b4.frozen 2
      obtain ⟨W5, hW5, b5, hw5, hs5⟩ := box_set b4 2 (.bool (!GP.2))
      simp only [List.set] at b5
      have bO5 := (bO.within hw4 (by omega)).within hw5 (by omega)
      have b05 := (b03.within hw4 (by omega)).within hw5 (by omega)
      obtain ⟨z0, z1, z2, _, _, _⟩ := bO5.three
      obtain ⟨x0, x1, x2, x3, f0, f1, f2, f3⟩ := b05.four
      obtain ⟨WF, hWF, bF, hwF, hsF⟩ := box4_fill b05 (.bool true) (.int .i64 o.kind) (.slice aI o.ints.length cI) (.slice aR o.refs.length cR)
      have HRD : Hid (Box WF B [.slice (some ⟨b, off, none⟩) zs.length c, .int .i64 ((k : Int) + (m : Int)), .bool (!GP.2)] 62) := b5.within hwF (by omega)
      have HWB : Hid (Within B (B + 1) w W5) := ((HW2.out.trans (Within.of_below hbc)).trans hw4).trans hw5
      have HWF : Hid (Within B (B + 1) w WF) := ⟨hwF.os.trans HWB.out.os, hwF.tape.trans HWB.out.tape, hwF.output.trans HWB.out.output, Nat.le_trans HWB.out.size hwF.size, fun k hk hn => (hwF.block k (by omega) (by omega)).trans (HWB.out.block k hk hn)⟩
      have HOF : Hid (OwnO WF w.heap.size WF.heap.size aI cI aR cR o) := (((oO.within hw4 (.inr (by omega))).within hw5 (.inr (by omega))).within hwF (.inr (by omega))).widen (by omega) (by omega) (Nat.le_refl _)
      have HEND : Hid (∃ t : SlotA, Ending.returned (.agg #[.bool true, .int .i64 o.kind, .slice aI o.ints.length cI, .slice aR o.refs.length cR]) = .returned (.agg t.cells.toArray) ∧ Hid (t.v = R.1) ∧ t.own WF w.heap.size WF.heap.size ∧ RdAt WF B (some ⟨b, off, none⟩) c zs R.2 ∧ Within B (B + 1) w WF) :=
        ⟨⟨⟨true, o⟩, aI, cI, aR, cR⟩, rfl, by rw [HR.out, Hid, hoE.out], HOF.out, by rw [HR.out]; exact HRD.out, HWF.out⟩
      have W4e := hW4.out
      have W5e := hW5.out
      rw [← W5e, ← W4e] at z0 z1 z2 x0 x1 x2 x3 f0 f1 f2 f3 hWF
      rw [← W4e] at y2 g2
      clear hwF hw4 hw5 hb2 hb3 HW2 b02 b03 HRD HWB HWF HOF W4e W5e hW4 hW5 b4 b5 bO oO bO5 b05 HG hbc
      go_wp2
      rw [hWF.out]
      obtain ⟨q0, q1, q2, q3, _⟩ := bF.four
      exact bodyPost_ret (v := .agg #[.bool true, .int .i64 o.kind, .slice aI o.ints.length cI, .slice aR o.refs.length cR]) (by simp [results, Tryz.results23, go_sem, q0, q1, q2, q3]) rfl HEND.out
end Go.Proofs.YtjaojcgfgkppgaaGreatDoor

/- The walk of laws.toPage. -/
namespace Go.Proofs.YtjaojcgfgkppgaaGreatDoor
open Go.RowKit

set_option maxHeartbeats 1000000 in
set_option maxRecDepth 100000 in
theorem toPage_own (p : PageA) (h4 : p.ss.length = 4) (w : World) (hr : ReadsS w p.ss) (hl : ∀ s ∈ p.ss, s.v.o.ints.length ≤ 1099511627776 ∧ s.v.o.refs.length ≤ 1099511627776) :
    Calls Tryz.prog 16 #[.agg p.cells.toArray] w fun e w' => ∃ ts : List SlotA, e = .returned (.agg (PageA.cells ⟨p.lsn, ts⟩).toArray) ∧ Hid (ts.map (·.v) = p.ss.map (·.v)) ∧ OwnS w' w.heap.size w'.heap.size ts ∧ Below w.heap.size w w' := by
  obtain ⟨n, ss⟩ := p
  simp only [PageA.cells] at *
  obtain ⟨W, hW, b0, b1, b2, hbW, hsW⟩ := boxes3 w (.int .i64 n :: cellsS ss) [.int .i64 0, .bool false, .int .i64 0, .slice none 0 0, .slice none 0 0, .bool false, .int .i64 0, .slice none 0 0, .slice none 0 0, .bool false, .int .i64 0, .slice none 0 0, .slice none 0 0, .bool false, .int .i64 0, .slice none 0 0, .slice none 0 0] [.int .i64 n, .bool false, .int .i64 0, .slice none 0 0, .slice none 0 0, .bool false, .int .i64 0, .slice none 0 0, .slice none 0 0, .bool false, .int .i64 0, .slice none 0 0, .slice none 0 0, .bool false, .int .i64 0, .slice none 0 0, .slice none 0 0] 44 52 52
  have b1' : Box W (w.heap.size + 1) ([] ++ ((.int .i64 0 :: cellsS zero4) ++ [])) 52 := b1
  have b2' : Box W (w.heap.size + 1 + 1) ([.int .i64 n] ++ (cellsS zero4 ++ [])) 52 := b2
  have hsW' : w.heap.size + 1 + 1 < W.heap.size := by omega
  clear b1 b2 hsW
  have hc0 := (box_new w (.int .i64 n :: cellsS ss) 44).cell 0 _ rfl
  have hrg0 : W.rangeAt w.heap.size 1 (cellsS ss) := Box.range [.int .i64 n] (cellsS ss) [] (by simpa using b0)
  have hi0 : (Tryz.prog.info? 42).map (·.size) = some (cellsS ss).length := by rw [cellsS_len, h4]; kernel_rfl
  go_enter Tryz.func16, Tryz.ntmps16
  go_wp2_with (first | (guard_target = wpList _ _ _ (Oper.mk (some 8) _ _ _ _ _ :: _) _ _; refine wpList_load_mid rfl 42 (.tmp 7) rfl w.heap.size 1 rfl (cellsS ss) _ (by rw [hW.out]; exact hrg0) Tryz.underlying42 rfl hi0 ?_) | fail)
  rw [hW.out]
  clear hW hrg0 hi0 hc0
  refine (toSlotA4_own ss h4 W (hr.below hbW) hl).mono ?_
  rintro e w1 ⟨ts, rfl, hv, ho, hb1⟩
  have htl : ts.length = 4 := by have := congrArg List.length hv.out; simp only [List.length_map] at this; omega
  have hs1 := hb1.size
  have b11 := b1'.below hb1 b1'.lt
  have b21 := b2'.below hb1 b2'.lt
  obtain ⟨W2, hW2, b22, hw2, hs2⟩ := range_fill [.int .i64 n] (cellsS zero4) (cellsS ts) [] b21 (by rw [cellsS_len, cellsS_len, htl]; rfl)
  have hW2' : w1.setCells (w.heap.size + 1 + 1) 1 (cellsS ts) = W2 := hW2.out
  have b12 := b11.within hw2 (by omega)
  obtain ⟨WF, hWF, bF, hwF, hsF⟩ := range_fill [] (.int .i64 0 :: cellsS zero4) (.int .i64 n :: cellsS ts) [] b12 (by simp only [List.length_cons, cellsS_len, htl]; rfl)
  have hWF' : W2.setCells (w.heap.size + 1) 0 (.int .i64 n :: cellsS ts) = WF := hWF.out
  have ht2 : w1.there (w.heap.size + 1 + 1) 1 (cellsS ts).toArray.size := b21.there 1 _ (by simp only [List.size_toArray, cellsS_len, htl, List.length_append, List.length_cons, List.length_nil]; decide)
  have hr2 : W2.rangeAt (w.heap.size + 1 + 1) 0 (.int .i64 n :: cellsS ts) := Box.range [] (.int .i64 n :: cellsS ts) [] (by simpa using b22)
  have htF : W2.there (w.heap.size + 1) 0 (.int .i64 n :: cellsS ts).toArray.size := b12.there 0 _ (by simp only [List.size_toArray, cellsS_len, htl, List.length_append, List.length_cons, List.length_nil]; decide)
  have hrF : WF.rangeAt (w.heap.size + 1) 0 (.int .i64 n :: cellsS ts) := Box.range [] (.int .i64 n :: cellsS ts) [] (by simpa using bF)
  have hi4 : (Tryz.prog.info? 50).map (·.size) = some (cellsS ts).toArray.size := by rw [List.size_toArray, cellsS_len, htl]; kernel_rfl
  have hi7 : (Tryz.prog.info? 52).map (·.size) = some (.int .i64 n :: cellsS ts).length := by rw [List.length_cons, cellsS_len, htl]; kernel_rfl
  have h1S := all_oneCell_toArray (oneS ts)
  have h1P := all_oneCell_toArray (oneP ⟨n, ts⟩)
  simp only [PageA.cells] at h1P
  have hlF := run_loadVar_mid (P := Tryz.prog) WF (w.heap.size + 1) 0 52 (.int .i64 n :: cellsS ts) _ hrF Tryz.underlying52 rfl hi7
  have hbF : Below w.heap.size w WF := ((hbW.trans (hb1.mono (by omega))).trans (hw2.below (by omega) (by omega))).trans (hwF.below (by omega) (by omega))
  have hoF : OwnS WF w.heap.size WF.heap.size ts := ((ho.within hw2 (.inr (by omega))).within hwF (.inr (by omega))).widen (by omega) (by omega) (Nat.le_refl _)
  have HF : Hid (_ ∧ _ ∧ _) := ⟨hlF, hbF, hoF⟩
  have HA : Hid (_ ∧ _ ∧ _) := ⟨ht2, hr2, htF⟩
  have HI : Hid (_ ∧ _) := ⟨hi4, hi7⟩
  have HO : Hid (_ ∧ _) := ⟨h1S, h1P⟩
  have HW2 : Hid (_ = _) := hW2'
  have HWF : Hid (_ = _) := hWF'
  clear hlF hbF hoF ht2 hr2 htF hi4 hi7 h1S h1P hW2' hWF' hrF hs2 hsF hw2 hwF b22 b12 b11 b21 bF hW2 hWF b0 b1' b2' hb1 hbW htl
  go_wp2_with (first | (guard_target = wpList _ _ _ (Oper.mk none (Op.store _ (Operand.tmp 10) _) _ _ _ _ :: _) _ _; refine wpList_store_mid rfl 50 (.tmp 10) (.tmp 9) rfl (w.heap.size + 1 + 1) 1 (cellsS ts).toArray rfl rfl HA.out.1 HI.out.1 HO.out.1 ?_) | (guard_target = wpList _ _ _ (Oper.mk (some 11) _ _ _ _ _ :: _) _ _; refine wpList_load_mid rfl 52 (.tmp 3) rfl (w.heap.size + 1 + 1) 0 rfl (.int .i64 n :: cellsS ts) _ (by rw [HW2.out]; exact HA.out.2.1) Tryz.underlying52 rfl HI.out.2 ?_) | (guard_target = wpList _ _ _ (Oper.mk none (Op.store _ (Operand.tmp 2) _) _ _ _ _ :: _) _ _; refine wpList_store_mid rfl 52 (.tmp 2) (.tmp 11) rfl (w.heap.size + 1) 0 (.int .i64 n :: cellsS ts).toArray rfl rfl (by rw [HW2.out]; exact HA.out.2.2) (by rw [List.size_toArray]; exact HI.out.2) HO.out.2 ?_) | fail)
  rw [HW2.out, HWF.out]
  exact bodyPost_ret (v := .agg (.int .i64 n :: cellsS ts).toArray) (results_one Tryz.results16 rfl HF.out.1) rfl ⟨ts, rfl, hv, HF.out.2.2, HF.out.2.1⟩
end Go.Proofs.YtjaojcgfgkppgaaGreatDoor

/- A slot of a page stored. -/
namespace Go.Proofs.YtjaojcgfgkppgaaGreatDoor
open Go.RowKit

theorem set_cons1 (v x : Value) (L : List Value) (i : Nat) : (v :: L).set (1 + i) x = v :: L.set i x := by rw [Nat.add_comm, List.set_cons_succ]
theorem pslot_fill {w : World} {B : Nat} {v : Value} {ss : List SlotA} {ty : TypeId} (b : Box w B (v :: cellsS ss) ty) (k : Nat) (hk : k < ss.length) (t : SlotA) :
    ∃ W, Hid ((((w.setCell ⟨B, 1 + k * 4, none⟩ (.bool t.v.has)).setCell ⟨B, 1 + k * 4 + 1, none⟩ (.int .i64 t.v.o.kind)).setCell ⟨B, 1 + k * 4 + 2, none⟩ (.slice t.aI t.v.o.ints.length t.cI)).setCell ⟨B, 1 + k * 4 + 3, none⟩ (.slice t.aR t.v.o.refs.length t.cR) = W) ∧ Box W B (v :: cellsS (ss.set k t)) ty ∧ Within B (B + 1) w W ∧ W.heap.size = w.heap.size := by
  refine ⟨_, rfl, ?_, ?_, ?_⟩
  · have := (((b.set (1 + k * 4) (.bool t.v.has)).set (1 + k * 4 + 1) (.int .i64 t.v.o.kind)).set (1 + k * 4 + 2) (.slice t.aI t.v.o.ints.length t.cI)).set (1 + k * 4 + 3) (.slice t.aR t.v.o.refs.length t.cR)
    rw [Nat.add_assoc, Nat.add_assoc 1 (k * 4) 2, Nat.add_assoc 1 (k * 4) 3, set_cons1, set_cons1, set_cons1, set_cons1, cellsS_set ss k hk t] at this
    rw [Nat.add_assoc, Nat.add_assoc 1 (k * 4) 2, Nat.add_assoc 1 (k * 4) 3]
    exact this
  · exact (((within_set w B _ _ (by omega)).trans (within_set _ B _ _ (by omega))).trans (within_set _ B _ _ (by omega))).trans (within_set _ B _ _ (by omega))
  · simp
/-- One of them is another, which lies behind them all. -/
theorem OwnS.set {w : World} {lo mid mid' hi : Nat} {ss : List SlotA} {t : SlotA} (h : OwnS w lo mid ss) (k : Nat) (ht : t.own w mid' hi) (h1 : lo ≤ mid') (h2 : mid ≤ mid') (h3 : mid' ≤ hi) : OwnS w lo hi (ss.set k t) := by
  have hhi : hi ≤ w.heap.size := ht.ints.2.1
  refine ⟨fun s hs => ?_, ?_⟩
  · rcases List.mem_or_eq_of_mem_set hs with h' | rfl
    · exact OwnO.widen (h.each s h') (Nat.le_refl _) (by omega) hhi
    · exact OwnO.widen ht h1 (Nat.le_refl _) hhi
  · have hb := SlotA.blocks_lt ht
    have hn := SlotA.blocks_nodup ht
    have hl := h.blocks_lt
    have ha := h.apart
    clear h ht
    induction ss generalizing k with
    | nil => exact ha
    | cons s r ih =>
      rw [List.flatMap_cons, List.nodup_append] at ha
      cases k with
      | zero =>
        rw [List.set_cons_zero, List.flatMap_cons, List.nodup_append]
        refine ⟨hn, ha.2.1, fun a ha' b hb' e => ?_⟩
        have h5 := (hb a ha').1
        have h6 := (hl b (by rw [List.flatMap_cons]; exact List.mem_append.2 (.inr hb'))).2
        omega
      | succ k =>
        rw [List.set_cons_succ, List.flatMap_cons, List.nodup_append]
        refine ⟨ha.1, ih k (fun x hx => hl x (by rw [List.flatMap_cons]; exact List.mem_append.2 (.inr hx))) ha.2.1, fun a ha' b hb' e => ?_⟩
        subst e
        obtain ⟨x, hx, hbx⟩ := List.mem_flatMap.1 hb'
        rcases List.mem_or_eq_of_mem_set hx with h' | rfl
        · exact ha.2.2 a ha' a (List.mem_flatMap.2 ⟨x, h', hbx⟩) rfl
        · have h5 := (hb a hbx).1
          have h6 := (hl a (by rw [List.flatMap_cons]; exact List.mem_append.2 (.inl ha'))).2
          omega
end Go.Proofs.YtjaojcgfgkppgaaGreatDoor

/- Plain mathematics of SetSlot; results that are a page and a flag. -/
namespace Go.Proofs.YtjaojcgfgkppgaaGreatDoor
open Go.RowKit

def setOk (n : Int) (vs : List SlotV) (slot : Int) (s : SlotV) (lsn : Int) : Bool := okP n vs && (inB slot 0 3 && (slotB s && inB lsn n 1000000))
def setOf (n : Int) (vs : List SlotV) (slot : Int) (s : SlotV) (lsn : Int) : Int × List SlotV := if setOk n vs slot s lsn then (lsn, vs.set slot.toNat s) else (n, vs)
theorem setOf_no {n : Int} {vs : List SlotV} {slot : Int} {s : SlotV} {lsn : Int} (h : setOk n vs slot s lsn = false) : setOf n vs slot s lsn = (n, vs) := by unfold setOf; rw [if_neg (by rw [h]; decide)]
theorem setOf_ok {n : Int} {vs : List SlotV} {slot : Int} {s : SlotV} {lsn : Int} (h : setOk n vs slot s lsn = true) : setOf n vs slot s lsn = (lsn, vs.set slot.toNat s) := by unfold setOf; rw [if_pos h]
theorem setOk_p {n : Int} {vs : List SlotV} {slot : Int} {s : SlotV} {lsn : Int} (h : okP n vs = false) : setOk n vs slot s lsn = false := by simp [setOk, h]
theorem setOk_slot {n : Int} {vs : List SlotV} {slot : Int} {s : SlotV} {lsn : Int} (h : inB slot 0 3 = false) : setOk n vs slot s lsn = false := by simp [setOk, h]
theorem setOk_s {n : Int} {vs : List SlotV} {slot : Int} {s : SlotV} {lsn : Int} (h : slotB s = false) : setOk n vs slot s lsn = false := by simp [setOk, h]
theorem setOk_lsn {n : Int} {vs : List SlotV} {slot : Int} {s : SlotV} {lsn : Int} (h : inB lsn n 1000000 = false) : setOk n vs slot s lsn = false := by simp [setOk, h]
theorem setOk_all {n : Int} {vs : List SlotV} {slot : Int} {s : SlotV} {lsn : Int} (h1 : okP n vs = true) (h2 : inB slot 0 3 = true) (h3 : slotB s = true) (h4 : inB lsn n 1000000 = true) : setOk n vs slot s lsn = true := by simp [setOk, h1, h2, h3, h4]

theorem results_cell_flag {P : Program} {fn : Func} {s t : Nat} {ty : TypeId} {tmps : Array Value} {w : World} {v b : Value} {ad : Addr} (hf : fn.results = #[.cell s ty, .tmp t]) (ht : tmps[s]?.getD undef = .pointer (some ad)) (hl : (loadVar ty ad).run P w = .ok v w) (hb : tmps[t]?.getD undef = b) : (results fn tmps).run P w = .ok (.tuple #[v, b]) w := by
  unfold results
  rw [hf]
  simp [ht, asAddr, hl, hb]

/-- A whole value loaded where a guard stands ahead of it that lets it by. -/
theorem wpList_load_mid_if {ops : Array Oper} {rest : List Oper} {op : Oper} {a : Act} {w : World} {Q : Exit → Act → World → Prop} {P : Program} (hw : Region.wanted op (yielded ops a.tmps) = true) (ty : TypeId) (x : Operand) (ho : op.op = .load ty x)
    (b o : Nat) (hx : a.eval x = .pointer (some ⟨b, o, none⟩)) (cs : List Value) (d : TypeDesc) (hc : w.rangeAt b o cs)
    (hu : P.underlying ty = some d) (hd : d.isRow = true) (hi : (P.info? ty).map (·.size) = some cs.length)
    (h : wpList P ops Q rest (a.put op.dst (.agg cs.toArray)) w) : wpList P ops Q (op :: rest) a w :=
  wpList_step fun _ hK => by
    simp only [hw, if_true]
    exact wp_load_mid ty x ho b o hx cs d hc hu hd hi (hK _ _ h)

def zero17 : List Value := [.int .i64 0, .bool false, .int .i64 0, .slice none 0 0, .slice none 0 0, .bool false, .int .i64 0, .slice none 0 0, .slice none 0 0, .bool false, .int .i64 0, .slice none 0 0, .slice none 0 0, .bool false, .int .i64 0, .slice none 0 0, .slice none 0 0]

/-- A page at B is stored at C, which holds a page: what is there then, and what the result reads. -/
theorem page_out {w : World} {C : Nat} {T : TypeId} {d : TypeDesc} (q : PageA) (hq : q.ss.length = 4) (old : List Value) (ho : old.length = 17) (bC : Box w C old T) (hu : Tryz.prog.underlying T = some d) (hd : d.isRow = true) (hi : (Tryz.prog.info? T).map (·.size) = some 17) :
    ∃ WF, Hid (w.setCells C 0 q.cells = WF) ∧ Within C (C + 1) w WF ∧ WF.heap.size = w.heap.size ∧ Hid (w.there C 0 q.cells.toArray.size) ∧ Hid ((loadVar T ⟨C, 0, none⟩).run Tryz.prog WF = .ok (.agg q.cells.toArray) WF) ∧ Box WF C q.cells T := by
  have hl : q.cells.length = 17 := page_len q hq
  obtain ⟨WF, hWF, bF, hwF, hsF⟩ := range_fill [] old q.cells [] (by simpa using bC) (by rw [hl, ho])
  have bF' : Box WF C q.cells T := by simpa using bF
  refine ⟨WF, hWF, hwF, hsF, bC.there 0 _ (by rw [List.size_toArray, hl, ho]; omega), ?_, bF'⟩
  exact run_loadVar_mid (P := Tryz.prog) WF C 0 T q.cells d (Box.range [] q.cells [] (by simpa using bF')) hu hd (by rw [hi, hl])
end Go.Proofs.YtjaojcgfgkppgaaGreatDoor
