/- Several texts in one, in their order. -/
import Derived.Test.YtoboickdkednkabDoorPBringx9
import Derived.Deep.RegionLaw
import Derived.Deep.DrawnRows
import Derived.Test.YtoboickdkednkabDoorPBringx7
import Derived.Test.YtoboickdkednkabDoorPBringx6
import Derived.Test.YtoboickdkednkabDoorPBringx3
import Derived.Test.YtoboickdkednkabDoorPBringx5
import Derived.Test.YtoboickdkednkabDoorPBringx8
import Derived.Deep.QuietTactic
import Derived.BigQuiet
import Derived.Deep.CutRange
import Derived.Test.YtoboickdkednkabDoorPBringx1
set_option maxHeartbeats 8000000
set_option maxRecDepth 100000
namespace Go.Proofs.YtoboickdkednkabDoor
open Go.RowKit
end Go.Proofs.YtoboickdkednkabDoor
namespace Go.Proofs.YtoboickdkednkabDoor
open Go.RowKit
attribute [local go_sem ↓] Go.wp_at_zero Go.wp_at_succ
end Go.Proofs.YtoboickdkednkabDoor
namespace Go.Proofs.YtoboickdkednkabDoor
open Go.RowKit
theorem cellsSts_mid (A B : List SeatA) (z z' : SeatA) (i : Nat) (v : Value) (hi : i < 20) (hc : z'.cells = z.cells.set i v) : (cellsSts (A ++ z :: B)).set (A.length * 20 + i) v = cellsSts (A ++ z' :: B) := by
 rw [cellsSts_app, cellsSts_cons, cellsSts_app, cellsSts_cons, List.set_append_right _ _ (by rw [cellsSts_len]; omega), cellsSts_len, show A.length * 20 + i - A.length * 20 = i by omega, List.set_append_left _ _ (by rw [cellsSt_len]; omega), hc]
theorem OwnSts.cellSet {w : World} {lo hi g c : Nat} {A B : List SeatA} {z z' : SeatA} (h : OwnSts w lo hi (some ⟨g, 0, none⟩) c (A ++ z :: B)) (i : Nat) (v : Value) (hi' : i < 20) (hc : z'.cells = z.cells.set i v) (hss : z'.ss = z.ss) :
  OwnSts (w.setCell ⟨g, A.length * 20 + i, none⟩ v) lo hi (some ⟨g, 0, none⟩) c (A ++ z' :: B) ∧ Touch [g] w (w.setCell ⟨g, A.length * 20 + i, none⟩ v) := by
 have hrow := h.row
 obtain ⟨h1, h2⟩ := hrow.stored (A.length * 20 + i) v
 have ht : Touch [g] w (w.setCell ⟨g, A.length * 20 + i, none⟩ v) := Touch.of_grown h2 (fun k hk => by cases hk; simp)
 have hbl : z'.blocks = z.blocks := by unfold SeatA.blocks; rw [hss]
 have hap := h.apart
 have hng : ∀ r ∈ A ++ z :: B, g ∉ r.blocks := fun r hr hk => by
  have := (List.nodup_append.1 hap).2.2 g (by simp [Value.ownBlock]) g (List.mem_flatMap.2 ⟨r, hr, hk⟩)
  exact this rfl
 have hlen : (A ++ z' :: B).length = (A ++ z :: B).length := by simp
 have hz : z'.own w lo hi := by
  have := h.each z (by simp)
  unfold SeatA.own at this ⊢
  rwa [hss]
 refine ⟨⟨?_, ?_, ?_, fun r hr => ?_, ?_⟩, ht⟩
 ·rw [hlen, ← cellsSts_mid A B z z' i v hi' hc]
  exact h1
 ·simpa using h.top
 ·rw [hlen]; exact h.blk
 ·rcases List.mem_append.1 hr with hr | hr
  ·exact (h.each r (by simp [hr])).touch ht (fun k hk hk' => hng r (by simp [hr]) (by rw [← List.mem_singleton.1 hk']; exact hk))
  ·rcases List.mem_cons.1 hr with rfl | hr
   ·exact hz.touch ht (fun k hk hk' => hng z (by simp) (by rw [← hbl, ← List.mem_singleton.1 hk']; exact hk))
   ·exact (h.each r (by simp [hr])).touch ht (fun k hk hk' => hng r (by simp [hr]) (by rw [← List.mem_singleton.1 hk']; exact hk))
 ·rw [hlen]
  simpa [hbl] using hap
end Go.Proofs.YtoboickdkednkabDoor
namespace Go.Proofs.YtoboickdkednkabDoor
open Go.RowKit
theorem not_part {E k : Nat} {P : List Nat} (h1 : k ≠ E) (h2 : k ∉ P) : k ∉ E :: P := fun h => (List.mem_cons.1 h).elim h1 h2
end Go.Proofs.YtoboickdkednkabDoor