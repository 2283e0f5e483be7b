/- The numbers of the library's functions and types at this program, for the library's contracts (laid by the kit's program). -/
import Derived.Shelf.SlSortCmp.WholeK
import Derived.Shelf.SlSortCmp.NoneTotal
import Derived.Ground.SlsfProg
import Derived.Test.YtjkckhfddgeboaaGreatDoorProg
namespace Go.Proofs
open Go.Shelf
def Tryz.sortHold_ren : Go.Shelf.Ren := ⟨fun | 6 => 257 | 15 => 321 | 14 => 320 | 28 => 345 | 29 => 346 | 20 => 337 | 21 => 338 | 22 => 339 | 23 => 340 | 24 => 341 | 25 => 342 | 26 => 343 | 27 => 344 | 46 => 368 | 47 => 369 | 48 => 370 | 49 => 371 | 50 => 372 | 57 => 380 | n => n, fun | 22 => 40 | 24 => 185 | 25 => 286 | 3 => 3 | 39 => 316 | 0 => 0 | 53 => 387 | 55 => 389 | 4 => 4 | 46 => 381 | 45 => 380 | 50 => 103 | 5 => 5 | 9 => 9 | 66 => 404 | 70 => 408 | 76 => 415 | 77 => 123 | n => n, fun | n => n⟩
theorem Tryz.sortHold : Go.Proofs.SlLaysF0.n6 Tryz.prog Tryz.sortHold_ren := {
  mixed := by kernel_rfl
  f6 := ⟨Tryz.f257.name, by decide, Tryz.func257.trans (congrArg some (by kernel_rfl))⟩
  f14 := ⟨Tryz.f320.name, by decide, Tryz.func320.trans (congrArg some (by kernel_rfl))⟩
  f15 := Tryz.func321.trans (congrArg some (by kernel_rfl))
  f20 := ⟨Tryz.f337.name, by decide, Tryz.func337.trans (congrArg some (by kernel_rfl))⟩
  f21 := ⟨Tryz.f338.name, by decide, Tryz.func338.trans (congrArg some (by kernel_rfl))⟩
  f22 := ⟨Tryz.f339.name, by decide, Tryz.func339.trans (congrArg some (by kernel_rfl))⟩
  f23 := ⟨Tryz.f340.name, by decide, Tryz.func340.trans (congrArg some (by kernel_rfl))⟩
  f24 := ⟨Tryz.f341.name, by decide, Tryz.func341.trans (congrArg some (by kernel_rfl))⟩
  f25 := ⟨Tryz.f342.name, by decide, Tryz.func342.trans (congrArg some (by kernel_rfl))⟩
  f26 := ⟨Tryz.f343.name, by decide, Tryz.func343.trans (congrArg some (by kernel_rfl))⟩
  f27 := ⟨Tryz.f344.name, by decide, Tryz.func344.trans (congrArg some (by kernel_rfl))⟩
  f28 := Tryz.func345.trans (congrArg some (by kernel_rfl))
  f29 := Tryz.func346.trans (congrArg some (by kernel_rfl))
  f46 := ⟨Tryz.f368.name, by decide, Tryz.func368.trans (congrArg some (by kernel_rfl))⟩
  f47 := Tryz.func369.trans (congrArg some (by kernel_rfl))
  f48 := Tryz.func370.trans (congrArg some (by kernel_rfl))
  f49 := ⟨Tryz.f371.name, by decide, Tryz.func371.trans (congrArg some (by kernel_rfl))⟩
  f50 := ⟨Tryz.f372.name, by decide, Tryz.func372.trans (congrArg some (by kernel_rfl))⟩
  f57 := ⟨Tryz.f380.name, by decide, Tryz.func380.trans (congrArg some (by kernel_rfl))⟩
  t0 := Tryz.underlying0
  a0 := Tryz.isAgg0
  z0 := Tryz.sizeOf0
  v0 := Tryz.zeroValue0
  t3 := Tryz.underlying3
  a3 := Tryz.isAgg3
  z3 := Tryz.sizeOf3
  v3 := Tryz.zeroValue3
  t4 := Tryz.underlying4
  a4 := Tryz.isAgg4
  z4 := Tryz.sizeOf4
  v4 := Tryz.zeroValue4
  t5 := Tryz.underlying5
  a5 := Tryz.isAgg5
  z5 := Tryz.sizeOf5
  v5 := Tryz.zeroValue5
  t9 := Tryz.underlying9
  a9 := Tryz.isAgg9
  z9 := Tryz.sizeOf9
  v9 := Tryz.zeroValue9
  t22 := Tryz.underlying40
  a22 := Tryz.isAgg40
  z22 := Tryz.sizeOf40
  v22 := Tryz.zeroValue40
  t25 := Tryz.underlying286
  a25 := Tryz.isAgg286
  z25 := Tryz.sizeOf286
  v25 := Tryz.zeroValue286
  t39 := Tryz.underlying316
  a39 := Tryz.isAgg316
  z39 := Tryz.sizeOf316
  v39 := Tryz.zeroValue316
  t45 := Tryz.underlying380
  a45 := Tryz.isAgg380
  z45 := Tryz.sizeOf380
  v45 := Tryz.zeroValue380
  t46 := Tryz.underlying381
  a46 := Tryz.isAgg381
  z46 := Tryz.sizeOf381
  v46 := Tryz.zeroValue381
  t50 := Tryz.underlying103
  a50 := Tryz.isAgg103
  z50 := Tryz.sizeOf103
  v50 := Tryz.zeroValue103
  t53 := Tryz.underlying387
  a53 := Tryz.isAgg387
  z53 := Tryz.sizeOf387
  v53 := Tryz.zeroValue387
  t55 := Tryz.underlying389
  a55 := Tryz.isAgg389
  z55 := Tryz.sizeOf389
  v55 := Tryz.zeroValue389
  t66 := Tryz.underlying404
  a66 := Tryz.isAgg404
  z66 := Tryz.sizeOf404
  v66 := Tryz.zeroValue404
  t70 := Tryz.underlying408
  a70 := Tryz.isAgg408
  z70 := Tryz.sizeOf408
  v70 := Tryz.zeroValue408
  t76 := Tryz.underlying415
  a76 := Tryz.isAgg415
  z76 := Tryz.sizeOf415
  v76 := Tryz.zeroValue415
  t77 := Tryz.underlying123
  a77 := Tryz.isAgg123
  z77 := Tryz.sizeOf123
  v77 := Tryz.zeroValue123 }
end Go.Proofs
