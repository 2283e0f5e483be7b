/- Several texts in one, in their order. -/
import Derived.Test.YtickiokdcbeefaaGreatDoorPFnLogsx2
import Derived.Laws.IdiomStrings
import Derived.Lib.BufferRead
import Derived.Test.YtickiokdcbeefaaGreatDoorPFnLogsx10
import Derived.Test.YtickiokdcbeefaaGreatDoorPFnLogsx6
import Derived.Test.YtickiokdcbeefaaGreatDoorPFnLogsx4
import Derived.Test.YtickiokdcbeefaaGreatDoorPFnLogsx5
import Derived.Test.YtickiokdcbeefaaGreatDoorPFnLogsx7
import Derived.Deep.RegionHeld3
import Derived.Deep.CutRange
import Derived.Deep.QuietTactic
import Derived.BigQuiet
import Derived.WalkSmall
import Derived.Test.YtickiokdcbeefaaGreatDoorPFnLogsx9
import Derived.Test.YtickiokdcbeefaaGreatDoorPFnLogsx8
import Derived.Test.YtickiokdcbeefaaGreatDoorPFnLogsx3
/- A text of bytes. -/
namespace Go.Proofs.YtickiokdcbeefaaGreatDoor
open Go.RowKit

def strOf (G : List Int) : ByteArray := ⟨(G.map fun z => UInt8.ofNat z.toNat).toArray⟩

theorem run_text (w : World) (b off cap : Nat) (G : List Int) (n : Nat) (hn : n = G.length) (hr : Reads w (some ⟨b, off, none⟩) G) :
    (convert 22 9 (.slice (some ⟨b, off, none⟩) n cap)).run Tryz.prog w = .ok (.string (strOf G)) w := by
  have h := run_convert_bytes_back (P := Tryz.prog) w 22 9 5 ⟨b, off, none⟩ cap (G.map fun z => UInt8.ofNat z.toNat) Tryz.underlying22 Tryz.underlying5 Tryz.underlying9 ?_
  · rw [List.length_map] at h
    rw [hn, h]
    rfl
  · intro j hj
    rw [List.length_map] at hj
    have hne : G ≠ [] := by intro e; simp [e] at hj
    obtain ⟨b', off', hh, hc⟩ := hr.2 hne
    cases hh
    have hadd : (⟨b, off, none⟩ : Addr).add j = ⟨b, off + j, none⟩ := by unfold Addr.add; split <;> simp_all
    rw [hadd, hc j hj]
    have hb := bytes_nat hr.1 j
    have hg : G.getD j 0 = G[j] := by simp [List.getD, hj]
    rw [hg] at hb
    simp only [List.getElem_map, hg]
    have : (UInt8.ofNat G[j].toNat).toNat = G[j].toNat := by simp; omega
    rw [this, ← hb.1]

theorem run_text_own {w : World} {base : Nat} {a : Option Addr} {c : Nat} {ys : List Int} (h : OwnB w base a c ys) :
    (convert 22 9 (.slice a ys.length c)).run Tryz.prog w = .ok (.string (strOf ys)) w := by
  cases a with
  | none =>
    have hn : ys = [] := by
      by_cases e : ys = []
      · exact e
      · obtain ⟨b, off, hh, _⟩ := h.reads.2 e
        cases hh
    subst hn
    exact Lib.run_convert_nil_bytes (P := Tryz.prog) w 22 9 5 c Tryz.underlying22 Tryz.underlying5 Tryz.underlying9
  | some x =>
    rcases h.2.2 with ⟨hv, _⟩ | ⟨g, cap, cur, hv, _⟩
    · simp at hv
    · simp only [Value.slice.injEq, Option.some.injEq] at hv
      obtain ⟨rfl, _, rfl⟩ := hv
      exact run_text w g 0 c ys _ rfl h.reads

end Go.Proofs.YtickiokdcbeefaaGreatDoor

/- The walks of impl.GetText and spec.GetText. -/
namespace Go.Proofs.YtickiokdcbeefaaGreatDoor
open Go.RowKit

/-- What GetText answers. -/
def textOf (zs : List Int) (p : Int) : Value := match getAt zs p with
  | some r => if 0 ≤ r.1 ∧ r.1 ≤ (zs.length : Int) - (r.2 : Int) then .tuple #[.string (strOf ((zs.drop r.2).take r.1.toNat)), .int .i64 ((r.2 : Int) + r.1), .bool true] else .tuple #[.string ⟨#[]⟩, .int .i64 0, .bool false]
  | none => .tuple #[.string ⟨#[]⟩, .int .i64 0, .bool false]

set_option maxHeartbeats 400000 in
theorem implGetText_any (a : Option Addr) (c : Nat) (zs : List Int) (p : Int) (w : World) (hr : Reads w a zs) (hl : zs.length ≤ 70368744177664) (hcap : zs.length ≤ c) :
    Calls Tryz.prog 137 #[.slice a zs.length c, .int .i64 p] w fun e w' => e = .returned (textOf zs p) ∧ w' = w := by
  cases hg : getAt zs p with
  | none =>
    have HT : Hid (textOf zs p = _) := (show textOf zs p = .tuple #[.string ⟨#[]⟩, .int .i64 0, .bool false] from by unfold textOf; rw [hg])
    have HG : Hid (_ = _) := hg
    clear hg
    go_enter Tryz.func137, Tryz.ntmps137
    go_wp2_with fail
    refine (implGetInt_any a c zs p w hr hl hcap).mono ?_
    rintro e w' ⟨rfl, rfl⟩
    rw [HG.out]
    simp only [triple]
    go_wp2
    go_ret3
    exact ⟨by rw [HT.out]; rfl, rfl⟩
  | some r =>
    obtain ⟨n, k⟩ := r
    obtain ⟨hk, hn1, hn2⟩ := getAt_bd zs p n k hg
    have HG : Hid (_ = _) := hg
    by_cases h0 : n < 0
    · have HT : Hid (textOf zs p = _) := (show textOf zs p = .tuple #[.string ⟨#[]⟩, .int .i64 0, .bool false] from by unfold textOf; rw [hg]; simp only; rw [if_neg (by omega)])
      clear hg
      go_enter Tryz.func137, Tryz.ntmps137
      go_wp2_with fail
      refine (implGetInt_any a c zs p w hr hl hcap).mono ?_
      rintro e w' ⟨rfl, rfl⟩
      rw [HG.out]
      simp only [triple]
      go_wp2
      go_ret3
      exact ⟨by rw [HT.out]; rfl, rfl⟩
    obtain ⟨m, rfl⟩ := Int.eq_ofNat_of_zero_le (show 0 ≤ n from by omega)
    by_cases h1 : (zs.length : Int) - (k : Int) < (m : Int)
    · have HT : Hid (textOf zs p = _) := (show textOf zs p = .tuple #[.string ⟨#[]⟩, .int .i64 0, .bool false] from by unfold textOf; rw [hg]; simp only; rw [if_neg (by omega)])
      clear hg
      go_enter Tryz.func137, Tryz.ntmps137
      go_wp2_with fail
      refine (implGetInt_any a c zs p w hr hl hcap).mono ?_
      rintro e w' ⟨rfl, rfl⟩
      rw [HG.out]
      simp only [triple]
      go_wp2
      go_ret3
      exact ⟨by rw [HT.out]; rfl, rfl⟩
    have HT : Hid (textOf zs p = _) := (show textOf zs p = .tuple #[.string (strOf ((zs.drop k).take m)), .int .i64 ((k : Int) + (m : Int)), .bool true] from by unfold textOf; rw [hg]; simp only; rw [if_pos (by omega), Int.toNat_natCast])
    rcases hr.cases with rfl | ⟨b, off, rfl, hpos, hcell⟩
    · simp [getAt, getOf, lead] at hg
    have hrp := reads_part hr.byte hcell k m (by omega)
    have hml : ((zs.drop k).take m).length = m := by simp; omega
    clear hg hcell
    generalize (zs.drop k).take m = G at *
    have HML : Hid (G.length = m) := hml
    clear hml
    by_cases hck : c = k
    · have hm0 : m ≤ 0 := by omega
      have hG : G = [] := by have := HML.out; exact List.length_eq_zero_iff.1 (by omega)
      have HGE : Hid (strOf G = strOf []) := by rw [hG]; rfl
      have hcA : ∀ cap, (convert 22 9 (.slice (some ⟨b, off, none⟩) (k + m - k) cap)).run Tryz.prog w = .ok (.string (strOf [])) w := fun cap => run_text w b off cap [] _ (by simp; omega) ⟨by simp, by simp⟩
      have hcB : ∀ cap, (convert 22 9 (.slice (some ⟨b, off, none⟩) m cap)).run Tryz.prog w = .ok (.string (strOf [])) w := fun cap => run_text w b off cap [] _ (by simp; omega) ⟨by simp, by simp⟩
      clear hG hrp
      subst hck
      go_enter Tryz.func137, Tryz.ntmps137
      go_wp2_with fail
      refine (implGetInt_any (some ⟨b, off, none⟩) c zs p w hr hl hcap).mono ?_
      rintro e w' ⟨rfl, rfl⟩
      rw [HG.out]
      simp only [triple]
      go_wp2
      go_ret3
      exact ⟨by rw [HT.out, HGE.out]; rfl, rfl⟩
    · have hcA : ∀ cap, (convert 22 9 (.slice (some ⟨b, off + k, none⟩) (k + m - k) cap)).run Tryz.prog w = .ok (.string (strOf G)) w := fun cap => run_text w b (off + k) cap G _ (by have := HML.out; omega) hrp
      have hcB : ∀ cap, (convert 22 9 (.slice (some ⟨b, off + k, none⟩) m cap)).run Tryz.prog w = .ok (.string (strOf G)) w := fun cap => run_text w b (off + k) cap G _ HML.out.symm hrp
      clear hrp
      go_enter Tryz.func137, Tryz.ntmps137
      go_wp2_with fail
      refine (implGetInt_any (some ⟨b, off, none⟩) c zs p w hr hl hcap).mono ?_
      rintro e w' ⟨rfl, rfl⟩
      rw [HG.out]
      simp only [triple]
      go_wp2
      go_ret3
      exact ⟨by rw [HT.out]; rfl, rfl⟩
end Go.Proofs.YtickiokdcbeefaaGreatDoor

/- The walk of impl.PutInt. -/
namespace Go.Proofs.YtickiokdcbeefaaGreatDoor
open Go.RowKit

end Go.Proofs.YtickiokdcbeefaaGreatDoor

/- The walk of spec.l2Same. -/
namespace Go.Proofs.YtickiokdcbeefaaGreatDoor
open Go.RowKit

end Go.Proofs.YtickiokdcbeefaaGreatDoor

/- The walk of spec.GetObj. -/
namespace Go.Proofs.YtickiokdcbeefaaGreatDoor
open Go.RowKit

end Go.Proofs.YtickiokdcbeefaaGreatDoor

/- The walk of spec.l3NextSlot. -/
namespace Go.Proofs.YtickiokdcbeefaaGreatDoor
open Go.RowKit

theorem own_zero (w : World) (lo hi : Nat) (h : hi ≤ w.heap.size) : zeroS.own w lo hi := ⟨ownI_nil _ _ _ h, ownI_nil _ _ _ h, fun k hk => by cases hk⟩

end Go.Proofs.YtickiokdcbeefaaGreatDoor

/- The walks of spec.l1Ends and spec.Unframe. -/
namespace Go.Proofs.YtickiokdcbeefaaGreatDoor
open Go.RowKit

end Go.Proofs.YtickiokdcbeefaaGreatDoor

/- The walk of spec.GetPage. -/
namespace Go.Proofs.YtickiokdcbeefaaGreatDoor
open Go.RowKit

theorem unf_len (zs : List Int) (p : Int) : (unfOf zs p).1.length ≤ zs.length := by
  unfold unfOf
  split
  · simp
  · split
    · simp
    · split
      · simp
      · split
        · simp only [List.length_take, List.length_drop]; omega
        · simp

end Go.Proofs.YtickiokdcbeefaaGreatDoor

/- A record that is cut is none. -/
namespace Go.Proofs.YtickiokdcbeefaaGreatDoor
open Go.RowKit

theorem pair_back {r : RecV} (h : okR r = true) : pairR (putRecOf r) = (r, true) := by
  have : getR (putRecOf r) = some r := getR_some h rfl
  unfold pairR; rw [this]
end Go.Proofs.YtickiokdcbeefaaGreatDoor
