/- Several texts in one, in their order. -/
import Derived.Test.YtelagcpkbcdpdaaProg
import Derived.Test.YtelagcpkbcdpdaaSq1
set_option maxHeartbeats 8000000
set_option maxRecDepth 100000
namespace Go.Proofs.Ytelagcpkbcdpdaa
theorem take_step {α:Type} (ls:List α) (z:α) (k:Nat) (h:k<ls.length):ls.take (k+1)=ls.take k++[ls.getD k z]:=by
 rw [List.take_succ_eq_append_getElem h]
 simp [List.getD,h]
theorem all_step {α:Type} {p:α→Bool} {ls:List α} {z:α} {k:Nat} (h:k<ls.length) (h0:(ls.take k).all p=true) (h1:p (ls.getD k z)=true):(ls.take (k+1)).all p=true:=by
 rw [take_step ls z k h,List.all_append,h0,List.all_cons,h1]
 rfl
theorem all_hit {α:Type} {p:α→Bool} {ls:List α} {z:α} {k:Nat} (h:k<ls.length) (h1:p (ls.getD k z)=false):ls.all p=false:=by
 rw [List.all_eq_false]
 exact ⟨ls.getD k z,by simp [List.getD,h],by rw [h1];decide⟩
theorem all_end {α:Type} {p:α→Bool} {ls:List α} {k:Nat} (h:¬ k<ls.length) (h0:(ls.take k).all p=true):ls.all p=true:=by
 rwa [List.take_of_length_le (by omega)] at h0
end Go.Proofs.Ytelagcpkbcdpdaa
namespace Go.Proofs.Ytelagcpkbcdpdaa
open Go.RowKit
theorem l1In_any (x l m:Int) (w:World):Calls Try.prog 36 #[.int .i64 x,.int .i64 l,.int .i64 m] w fun e w'=>e=.returned (.bool (inB x l m))∧w'=w:=by
 by_cases h1:l≤x
 ·by_cases h2:x≤m
  ·have HB:Hid (inB x l m=true):=by simp [Hid,inB,h1,h2]
   go_enter Try.func36,Try.ntmps36
   go_wp2
   go_ret
   exact ⟨ret_bool HB.out.symm,rfl⟩
  ·have HB:Hid (inB x l m=false):=by simp [Hid,inB,h2]
   go_enter Try.func36,Try.ntmps36
   go_wp2
   go_ret
   exact ⟨ret_bool HB.out.symm,rfl⟩
 ·have HB:Hid (inB x l m=false):=by simp [Hid,inB,h1]
  go_enter Try.func36,Try.ntmps36
  go_wp2
  go_ret
  exact ⟨ret_bool HB.out.symm,rfl⟩
end Go.Proofs.Ytelagcpkbcdpdaa