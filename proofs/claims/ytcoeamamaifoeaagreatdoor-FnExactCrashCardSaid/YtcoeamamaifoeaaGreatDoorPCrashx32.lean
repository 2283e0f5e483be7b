/- Several texts in one, in their order. -/
import Derived.Test.YtcoeamamaifoeaaGreatDoorRows
import Derived.Test.YtcoeamamaifoeaaGreatDoorPCrashx8
import Derived.LaidLaws
import Derived.LaidHandle
import Derived.Stop.Joined
import Derived.ChangeVars
import Derived.Test.YtcoeamamaifoeaaGreatDoorPCrashx1
set_option maxHeartbeats 8000000
set_option maxRecDepth 100000
namespace Go.Proofs.YtcoeamamaifoeaaGreatDoor
open Go.ChangeShapes Go.WideShapes Go.RowKit
theorem Tryz.et : Tryz.prog.globalNamed "errors.errorType" = some 0 := by kernel_rfl
theorem Tryz.rt : (Tryz.prog.cutTypes.find? (·.1 == "internal/reflectlite.rtype")).map (·.2) = some 218 := by kernel_rfl
theorem Tryz.oneRow:((List.range 260).filter fun t=>Tryz.prog.rowNamed t [101,114,114,111,114])=[196]:=by kernel_rfl
theorem Tryz.typesSize:Tryz.prog.types.size=260:=by kernel_rfl
theorem errT_of_handles {W : World} {laid : List (String × DataW Unit)} (hm : ("errors.errorType", Rows.laid_errors_errorType) ∈ laid) (h : handlesMet Tryz.prog laid W) : ErrT W := by
 obtain ⟨name,u,ty,e1,e2,e3,e4,e5⟩:=h _ hm
 have en:name=[101,114,114,111,114]:=(Option.some.inj e1).symm
 subst en
 obtain rfl:=Option.some.inj (Tryz.rt.symm.trans e2)
 have hm:ty∈(List.range 260).filter fun t=>Tryz.prog.rowNamed t [101,114,114,111,114]:=List.mem_filter.2 ⟨List.mem_range.2 (by rw [← Tryz.typesSize];exact e3),e4⟩
 rw [Tryz.oneRow] at hm
 obtain rfl:=List.mem_singleton.1 hm
 have hh:typeHandle Tryz.prog 196=.pointer (some ⟨1,196,none⟩):=by kernel_rfl
 rw [hh] at e5
 unfold ErrT
 simpa using World.var?_cell Tryz.et e5 0
def laid1 : List (String × DataW Unit) := [("errors.errorType", Rows.laid_errors_errorType)]
theorem errT_of_laid1 {W:World} (h:laidMetH Tryz.prog laid1 W):ErrT W:=by
 have h':laidMet Tryz.prog [] W∧handlesMet Tryz.prog laid1 W:=h
 exact errT_of_handles (List.mem_singleton.2 rfl) h'.2
end Go.Proofs.YtcoeamamaifoeaaGreatDoor