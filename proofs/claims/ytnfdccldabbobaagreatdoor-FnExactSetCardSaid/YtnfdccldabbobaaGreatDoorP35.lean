/- Texts. -/
import Derived.Test.YtnfdccldabbobaaGreatDoorRows
import Derived.Test.YtnfdccldabbobaaGreatDoorP2
import Derived.LaidLaws
import Derived.LaidHandle
import Derived.Stop.Joined
import Derived.ChangeVars
set_option maxHeartbeats 8000000
set_option maxRecDepth 100000
namespace Go.Proofs.YtnfdccldabbobaaGreatDoor
open Go.RowKit Go.Proofs.Tryz
section
open Go.ChangeShapes Go.WideShapes Go.RowKit
theorem Tryz.et : prog.globalNamed "errors.errorType" = some 0 := by kernel_rfl
theorem Tryz.rt : (prog.cutTypes.find? (·.1 == "internal/reflectlite.rtype")).map (·.2) = some 272 := by kernel_rfl
theorem Tryz.qe4:((List.range 325).filter fun t=>prog.rowNamed t [101,114,114,111,114])=[179]:=by kernel_rfl
theorem Tryz.Le:prog.types.size=325:=by kernel_rfl
theorem H7 {W : World} {laid : List (String × DataW Unit)} (hm : ("errors.errorType", Rows.laid_errors_errorType) ∈ laid) (h : handlesMet prog laid W) : jR W := by
 obtain ⟨name,u,ty,e1,e2,e3,e4,e5⟩:=h _ hm;have en:name=[101,114,114,111,114]:=(qfb e1).symm;subst en;obtain rfl:=qfb (Tryz.rt.symm.trans e2);have hm:ty∈(List.range 325).filter fun t=>prog.rowNamed t [101,114,114,111,114]:=List.mem_filter.2 ⟨qds.2 (by rw [← Tryz.Le];exact e3),e4⟩
 rw [Tryz.qe4] at hm;obtain rfl:=qac.1 hm;have hh:typeHandle prog 179=.pointer (some ⟨1,179,none⟩):=by kernel_rfl
 rw [hh] at e5;unfold jR
 simpa using World.var?_cell Tryz.et e5 0
def H8 : List (String × DataW Unit) := [("errors.errorType", Rows.laid_errors_errorType)]
theorem fJ {W:World} (h:laidMetH prog H8 W):jR W:=by
 have h':laidMet prog [] W∧handlesMet prog H8 W:=h;exact H7 (qac.2 rfl) h'.2
end
end Go.Proofs.YtnfdccldabbobaaGreatDoor
