/-
  DERIVED: THE SHELF's CONTRACTS AT THIS DUMP, IN PLAIN WORDS (tools/lay-plain.mjs out of 'YtjefgmeejhakbabGreatDoorDkIter.lean', which tools/lay-shelf.mjs wrote): THE SAME DECLARATIONS UNDER THE SAME NAMES: 'import', 'namespace', 'open', 'def', 'theorem' AND NOTHING ELSE: no command of the shelf's: FOR A HAND-IN. Each laying: the table of numbers ('.._ren') and one theorem, a field a fact of the dump's own or the kernel's comparison; each contract: ONE APPLICATION.
-/
import Derived.Shelf.SlGeneric
import Derived.Shelf.SlIter.Nil
import Derived.Shelf.SortM.Plain
import Derived.Shelf.SortM.SortNone
import Derived.Ground.GgzProg
import Derived.Ground.SlgmProg
import Derived.Test.YtjefgmeejhakbabGreatDoorProg
namespace Go.Proofs
open Go.Shelf
def Tryz.kKeys_ren : Go.Shelf.Ren := ⟨fun | 7 => 106 | 10 => 183 | n => n, fun | 23 => 86 | 26 => 9 | 3 => 91 | 28 => 43 | 0 => 0 | 27 => 42 | 33 => 24 | 4 => 4 | n => n, fun | n => n⟩
theorem Tryz.kKeys : Go.Proofs.SlLaysZ.n7 Tryz.prog Tryz.kKeys_ren := {
  mixed := by kernel_rfl
  f7 := ⟨Tryz.f106.name, by decide, Tryz.func106.trans (congrArg some (by kernel_rfl))⟩
  f10 := ⟨Tryz.f183.name, by decide, Tryz.func183.trans (congrArg some (by kernel_rfl))⟩
  t0 := Tryz.underlying0
  a0 := Tryz.isAgg0
  z0 := Tryz.sizeOf0
  v0 := Tryz.zeroValue0
  t4 := Tryz.underlying4
  a4 := Tryz.isAgg4
  z4 := Tryz.sizeOf4
  v4 := Tryz.zeroValue4
  t23 := Tryz.underlying86
  a23 := Tryz.isAgg86
  z23 := Tryz.sizeOf86
  v23 := Tryz.zeroValue86
  t26 := Tryz.underlying9
  a26 := Tryz.isAgg9
  z26 := Tryz.sizeOf9
  v26 := Tryz.zeroValue9
  t27 := Tryz.underlying42
  a27 := Tryz.isAgg42
  z27 := Tryz.sizeOf42
  v27 := Tryz.zeroValue42
  t28 := Tryz.underlying43
  a28 := Tryz.isAgg43
  z28 := Tryz.sizeOf43
  v28 := Tryz.zeroValue43
  t33 := Tryz.underlying24
  a33 := Tryz.isAgg24
  z33 := Tryz.sizeOf24
  v33 := Tryz.zeroValue24 }
def Tryz.kSorted_ren : Go.Shelf.Ren := ⟨fun | 6 => 105 | 8 => 181 | 9 => 182 | 11 => 236 | 13 => 238 | 12 => 237 | 23 => 300 | 24 => 277 | 14 => 291 | 15 => 292 | 16 => 293 | 17 => 294 | 18 => 295 | 19 => 296 | 20 => 297 | 21 => 298 | 22 => 299 | 25 => 338 | 26 => 339 | 27 => 340 | 28 => 341 | 29 => 342 | 30 => 343 | 31 => 371 | n => n, fun | 26 => 9 | 28 => 43 | 24 => 25 | 0 => 0 | 3 => 3 | 37 => 74 | 48 => 67 | 50 => 64 | 4 => 4 | 40 => 386 | 39 => 385 | 45 => 53 | 5 => 5 | 9 => 9 | 51 => 410 | 55 => 413 | 57 => 432 | 58 => 433 | 33 => 24 | n => n, fun | n => n⟩
theorem Tryz.kSorted : Go.Proofs.SlLaysZ.n6 Tryz.prog Tryz.kSorted_ren := {
  mixed := by kernel_rfl
  f6 := ⟨Tryz.f105.name, by decide, Tryz.func105.trans (congrArg some (by kernel_rfl))⟩
  f8 := ⟨Tryz.f181.name, by decide, Tryz.func181.trans (congrArg some (by kernel_rfl))⟩
  f11 := ⟨Tryz.f236.name, by decide, Tryz.func236.trans (congrArg some (by kernel_rfl))⟩
  t0 := Tryz.underlying0
  a0 := Tryz.isAgg0
  z0 := Tryz.sizeOf0
  v0 := Tryz.zeroValue0
  t24 := Tryz.underlying25
  a24 := Tryz.isAgg25
  z24 := Tryz.sizeOf25
  v24 := Tryz.zeroValue25
  t26 := Tryz.underlying9
  a26 := Tryz.isAgg9
  z26 := Tryz.sizeOf9
  v26 := Tryz.zeroValue9
  t28 := Tryz.underlying43
  a28 := Tryz.isAgg43
  z28 := Tryz.sizeOf43
  v28 := Tryz.zeroValue43
  i26 := by kernel_rfl }
def Tryz.kSort_ren : Go.Shelf.Ren := ⟨fun | 6 => 182 | 8 => 238 | 9 => 237 | 19 => 300 | 20 => 277 | 21 => 291 | 22 => 292 | 23 => 293 | 24 => 294 | 25 => 295 | 26 => 296 | 27 => 297 | 28 => 298 | 29 => 299 | 36 => 338 | 31 => 339 | 32 => 340 | 37 => 341 | 38 => 342 | 39 => 343 | 41 => 371 | n => n, fun | 27 => 25 | 29 => 9 | 3 => 3 | 32 => 74 | 26 => 25 | 0 => 0 | 44 => 67 | 46 => 64 | 4 => 4 | 36 => 386 | 35 => 385 | 41 => 53 | 5 => 5 | 9 => 9 | 53 => 410 | 57 => 413 | 63 => 432 | 64 => 433 | n => n, fun | n => n⟩
theorem Tryz.kSort : Go.Proofs.SlLaysM.n6 Tryz.prog Tryz.kSort_ren := {
  mixed := by kernel_rfl
  f6 := ⟨Tryz.f182.name, by decide, Tryz.func182.trans (congrArg some (by kernel_rfl))⟩
  f8 := Tryz.func238.trans (congrArg some (by kernel_rfl))
  f9 := ⟨Tryz.f237.name, by decide, Tryz.func237.trans (congrArg some (by kernel_rfl))⟩
  f19 := Tryz.func300.trans (congrArg some (by kernel_rfl))
  f20 := Tryz.func277.trans (congrArg some (by kernel_rfl))
  f21 := ⟨Tryz.f291.name, by decide, Tryz.func291.trans (congrArg some (by kernel_rfl))⟩
  f22 := ⟨Tryz.f292.name, by decide, Tryz.func292.trans (congrArg some (by kernel_rfl))⟩
  f23 := ⟨Tryz.f293.name, by decide, Tryz.func293.trans (congrArg some (by kernel_rfl))⟩
  f24 := ⟨Tryz.f294.name, by decide, Tryz.func294.trans (congrArg some (by kernel_rfl))⟩
  f25 := ⟨Tryz.f295.name, by decide, Tryz.func295.trans (congrArg some (by kernel_rfl))⟩
  f26 := ⟨Tryz.f296.name, by decide, Tryz.func296.trans (congrArg some (by kernel_rfl))⟩
  f27 := ⟨Tryz.f297.name, by decide, Tryz.func297.trans (congrArg some (by kernel_rfl))⟩
  f28 := ⟨Tryz.f298.name, by decide, Tryz.func298.trans (congrArg some (by kernel_rfl))⟩
  f29 := ⟨Tryz.f299.name, by decide, Tryz.func299.trans (congrArg some (by kernel_rfl))⟩
  f31 := Tryz.func339.trans (congrArg some (by kernel_rfl))
  f32 := Tryz.func340.trans (congrArg some (by kernel_rfl))
  f36 := ⟨Tryz.f338.name, by decide, Tryz.func338.trans (congrArg some (by kernel_rfl))⟩
  f37 := ⟨Tryz.f341.name, by decide, Tryz.func341.trans (congrArg some (by kernel_rfl))⟩
  f38 := ⟨Tryz.f342.name, by decide, Tryz.func342.trans (congrArg some (by kernel_rfl))⟩
  f39 := ⟨Tryz.f343.name, by decide, Tryz.func343.trans (congrArg some (by kernel_rfl))⟩
  f41 := ⟨Tryz.f371.name, by decide, Tryz.func371.trans (congrArg some (by kernel_rfl))⟩
  t0 := Tryz.underlying0
  a0 := Tryz.isAgg0
  z0 := Tryz.sizeOf0
  v0 := Tryz.zeroValue0
  t3 := Tryz.underlying3
  a3 := Tryz.isAgg3
  z3 := Tryz.sizeOf3
  v3 := Tryz.zeroValue3
  t4 := Tryz.underlying4
  a4 := Tryz.isAgg4
  z4 := Tryz.sizeOf4
  v4 := Tryz.zeroValue4
  t5 := Tryz.underlying5
  a5 := Tryz.isAgg5
  z5 := Tryz.sizeOf5
  v5 := Tryz.zeroValue5
  t9 := Tryz.underlying9
  a9 := Tryz.isAgg9
  z9 := Tryz.sizeOf9
  v9 := Tryz.zeroValue9
  t26 := Tryz.underlying25
  a26 := Tryz.isAgg25
  z26 := Tryz.sizeOf25
  v26 := Tryz.zeroValue25
  t27 := Tryz.underlying25
  a27 := Tryz.isAgg25
  z27 := Tryz.sizeOf25
  v27 := Tryz.zeroValue25
  t29 := Tryz.underlying9
  a29 := Tryz.isAgg9
  z29 := Tryz.sizeOf9
  v29 := Tryz.zeroValue9
  t32 := Tryz.underlying74
  a32 := Tryz.isAgg74
  z32 := Tryz.sizeOf74
  v32 := Tryz.zeroValue74
  t35 := Tryz.underlying385
  a35 := Tryz.isAgg385
  z35 := Tryz.sizeOf385
  v35 := Tryz.zeroValue385
  t36 := Tryz.underlying386
  a36 := Tryz.isAgg386
  z36 := Tryz.sizeOf386
  v36 := Tryz.zeroValue386
  t41 := Tryz.underlying53
  a41 := Tryz.isAgg53
  z41 := Tryz.sizeOf53
  v41 := Tryz.zeroValue53
  t44 := Tryz.underlying67
  a44 := Tryz.isAgg67
  z44 := Tryz.sizeOf67
  v44 := Tryz.zeroValue67
  t46 := Tryz.underlying64
  a46 := Tryz.isAgg64
  z46 := Tryz.sizeOf64
  v46 := Tryz.zeroValue64
  t53 := Tryz.underlying410
  a53 := Tryz.isAgg410
  z53 := Tryz.sizeOf410
  v53 := Tryz.zeroValue410
  t57 := Tryz.underlying413
  a57 := Tryz.isAgg413
  z57 := Tryz.sizeOf413
  v57 := Tryz.zeroValue413
  t63 := Tryz.underlying432
  a63 := Tryz.isAgg432
  z63 := Tryz.sizeOf432
  v63 := Tryz.zeroValue432
  t64 := Tryz.underlying433
  a64 := Tryz.isAgg433
  z64 := Tryz.sizeOf433
  v64 := Tryz.zeroValue433 }
end Go.Proofs
