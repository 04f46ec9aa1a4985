/- The shelf's contracts at this program, in plain words (written by program: lay.py). -/
import Derived.Test.YtbacgljeadalbaaGreatDoorProg
import Derived.Test.YtbacgljeadalbaaGreatDoorZ5
import Derived.Test.YtbacgljeadalbaaGreatDoorZ4
import Derived.Test.YtbacgljeadalbaaGreatDoorIKit
import Derived.Shelf.LaysM
import Derived.Shelf.Strconv.Clone
import Derived.Ground.GgwProg
import Derived.Shelf.GgClosure.StringsRunes
import Derived.Shelf.SlIter.Nil
import Derived.Shelf.SortM.Plain
import Derived.Shelf.SortM.SortNone
import Derived.Ground.GgzProg
import Derived.Ground.SlgmProg
import Derived.Shelf.Strings.Prefix
import Derived.Shelf.Strconv.Atoi
import Derived.Shelf.Slices.Turned
import Derived.Shelf.Slices.Reverse
import Derived.Laws.Tables
import Derived.Laws.Rows
import Derived.Lib.SmallJoins
import Derived.Laws.DeepStrings4
namespace Go.Proofs
open Go.Shelf
def Tryz.clone__ren : Go.Shelf.Ren := ⟨fun | 316 => 78 | n => n, fun | 9 => 9 | 3 => 3 | 4 => 4 | 37 => 32 | 0 => 0 | 127 => 121 | 5 => 5 | n => n, fun | n => n⟩
theorem Tryz.clone_ : Go.Proofs.LaysM.n316 Tryz.prog Tryz.clone__ren := {
  mixed := by kernel_rfl
  f316 := Tryz.func78.trans (congrArg some (by kernel_rfl))
  t0 := Tryz.underlying0
  a0 := Tryz.isAgg0
  z0 := Tryz.sizeOf0
  v0 := Tryz.zeroValue0
  t3 := Tryz.underlying3
  a3 := Tryz.isAgg3
  z3 := Tryz.sizeOf3
  v3 := Tryz.zeroValue3
  t4 := Tryz.underlying4
  a4 := Tryz.isAgg4
  z4 := Tryz.sizeOf4
  v4 := Tryz.zeroValue4
  t9 := Tryz.underlying9
  a9 := Tryz.isAgg9
  z9 := Tryz.sizeOf9
  v9 := Tryz.zeroValue9
  t37 := Tryz.underlying32
  a37 := Tryz.isAgg32
  z37 := Tryz.sizeOf32
  v37 := Tryz.zeroValue32
  t127 := Tryz.underlying121
  a127 := Tryz.isAgg121
  z127 := Tryz.sizeOf121
  v127 := Tryz.zeroValue121
  t5 := Tryz.underlying5
  a5 := Tryz.isAgg5
  z5 := Tryz.sizeOf5
  v5 := Tryz.zeroValue5
  i0 := by kernel_rfl
  i3 := by kernel_rfl
  i4 := by kernel_rfl
  i5 := by kernel_rfl
  i9 := by kernel_rfl
  i37 := by kernel_rfl
  i127 := by kernel_rfl }
def Tryz.index__ren : Go.Shelf.Ren := ⟨fun | 315 => 109 | n => n, fun | 9 => 9 | 40 => 111 | 4 => 4 | 3 => 3 | 0 => 0 | 21 => 21 | n => n, fun | n => n⟩
theorem Tryz.index_ : Go.Proofs.Lays.n315 Tryz.prog Tryz.index__ren := {
  mixed := by kernel_rfl
  f315 := Tryz.func109.trans (congrArg some (by kernel_rfl))
  t0 := Tryz.underlying0
  a0 := Tryz.isAgg0
  z0 := Tryz.sizeOf0
  v0 := Tryz.zeroValue0
  t3 := Tryz.underlying3
  a3 := Tryz.isAgg3
  z3 := Tryz.sizeOf3
  v3 := Tryz.zeroValue3
  t4 := Tryz.underlying4
  a4 := Tryz.isAgg4
  z4 := Tryz.sizeOf4
  v4 := Tryz.zeroValue4
  t9 := Tryz.underlying9
  a9 := Tryz.isAgg9
  z9 := Tryz.sizeOf9
  v9 := Tryz.zeroValue9
  t21 := Tryz.underlying21
  a21 := Tryz.isAgg21
  z21 := Tryz.sizeOf21
  v21 := Tryz.zeroValue21
  t40 := Tryz.underlying111
  a40 := Tryz.isAgg111
  z40 := Tryz.sizeOf111
  v40 := Tryz.zeroValue111 }
def Tryz.indexF__ren : Go.Shelf.Ren := ⟨fun | 15 => 88 | 20 => 109 | n => n, fun | 9 => 9 | 23 => 111 | 3 => 3 | 4 => 4 | 0 => 0 | 21 => 21 | n => n, fun | n => n⟩
theorem Tryz.indexF_ : Go.Proofs.LaysGw.n15 Tryz.prog Tryz.indexF__ren := {
  mixed := by kernel_rfl
  f15 := Tryz.func88.trans (congrArg some (by kernel_rfl))
  f20 := Tryz.func109.trans (congrArg some (by kernel_rfl))
  t0 := Tryz.underlying0
  a0 := Tryz.isAgg0
  z0 := Tryz.sizeOf0
  v0 := Tryz.zeroValue0
  i0 := by kernel_rfl
  t3 := Tryz.underlying3
  a3 := Tryz.isAgg3
  z3 := Tryz.sizeOf3
  v3 := Tryz.zeroValue3
  i3 := by kernel_rfl
  t4 := Tryz.underlying4
  a4 := Tryz.isAgg4
  z4 := Tryz.sizeOf4
  v4 := Tryz.zeroValue4
  i4 := by kernel_rfl
  t9 := Tryz.underlying9
  a9 := Tryz.isAgg9
  z9 := Tryz.sizeOf9
  v9 := Tryz.zeroValue9
  i9 := by kernel_rfl
  t21 := Tryz.underlying21
  a21 := Tryz.isAgg21
  z21 := Tryz.sizeOf21
  v21 := Tryz.zeroValue21
  i21 := by kernel_rfl
  t23 := Tryz.underlying111
  a23 := Tryz.isAgg111
  z23 := Tryz.sizeOf111
  v23 := Tryz.zeroValue111
  i23 := by kernel_rfl }
def Tryz.contF__ren : Go.Shelf.Ren := ⟨fun | 17 => 76 | 15 => 88 | 20 => 109 | n => n, fun | 9 => 9 | 23 => 111 | 4 => 4 | 3 => 3 | 0 => 0 | 21 => 21 | n => n, fun | n => n⟩
theorem Tryz.contF_ : Go.Proofs.LaysGw.n17 Tryz.prog Tryz.contF__ren := {
  mixed := by kernel_rfl
  f15 := Tryz.func88.trans (congrArg some (by kernel_rfl))
  f17 := Tryz.func76.trans (congrArg some (by kernel_rfl))
  f20 := Tryz.func109.trans (congrArg some (by kernel_rfl))
  t0 := Tryz.underlying0
  a0 := Tryz.isAgg0
  z0 := Tryz.sizeOf0
  v0 := Tryz.zeroValue0
  i0 := by kernel_rfl
  t3 := Tryz.underlying3
  a3 := Tryz.isAgg3
  z3 := Tryz.sizeOf3
  v3 := Tryz.zeroValue3
  i3 := by kernel_rfl
  t4 := Tryz.underlying4
  a4 := Tryz.isAgg4
  z4 := Tryz.sizeOf4
  v4 := Tryz.zeroValue4
  i4 := by kernel_rfl
  t9 := Tryz.underlying9
  a9 := Tryz.isAgg9
  z9 := Tryz.sizeOf9
  v9 := Tryz.zeroValue9
  i9 := by kernel_rfl
  t21 := Tryz.underlying21
  a21 := Tryz.isAgg21
  z21 := Tryz.sizeOf21
  v21 := Tryz.zeroValue21
  i21 := by kernel_rfl
  t23 := Tryz.underlying111
  a23 := Tryz.isAgg111
  z23 := Tryz.sizeOf111
  v23 := Tryz.zeroValue111
  i23 := by kernel_rfl }
def Tryz.keys__ren : Go.Shelf.Ren := ⟨fun | 7 => 52 | 10 => 66 | n => n, fun | 23 => 64 | 26 => 9 | 3 => 67 | 28 => 83 | 0 => 0 | 27 => 82 | 33 => 93 | 4 => 4 | n => n, fun | n => n⟩
theorem Tryz.keys_ : Go.Proofs.SlLaysZ.n7 Tryz.prog Tryz.keys__ren := {
  mixed := by kernel_rfl
  f7 := ⟨Tryz.f52.name, by decide, Tryz.func52.trans (congrArg some (by kernel_rfl))⟩
  f10 := ⟨Tryz.f66.name, by decide, Tryz.func66.trans (congrArg some (by kernel_rfl))⟩
  t0 := Tryz.underlying0
  a0 := Tryz.isAgg0
  z0 := Tryz.sizeOf0
  v0 := Tryz.zeroValue0
  t4 := Tryz.underlying4
  a4 := Tryz.isAgg4
  z4 := Tryz.sizeOf4
  v4 := Tryz.zeroValue4
  t23 := Tryz.underlying64
  a23 := Tryz.isAgg64
  z23 := Tryz.sizeOf64
  v23 := Tryz.zeroValue64
  t26 := Tryz.underlying9
  a26 := Tryz.isAgg9
  z26 := Tryz.sizeOf9
  v26 := Tryz.zeroValue9
  t27 := Tryz.underlying82
  a27 := Tryz.isAgg82
  z27 := Tryz.sizeOf82
  v27 := Tryz.zeroValue82
  t28 := Tryz.underlying83
  a28 := Tryz.isAgg83
  z28 := Tryz.sizeOf83
  v28 := Tryz.zeroValue83
  t33 := Tryz.underlying93
  a33 := Tryz.isAgg93
  z33 := Tryz.sizeOf93
  v33 := Tryz.zeroValue93 }
def Tryz.sorted__ren : Go.Shelf.Ren := ⟨fun | 6 => 51 | 8 => 64 | 9 => 65 | 11 => 79 | 13 => 81 | 12 => 80 | 23 => 98 | 24 => 99 | 14 => 89 | 15 => 90 | 16 => 91 | 17 => 92 | 18 => 93 | 19 => 94 | 20 => 95 | 21 => 96 | 22 => 97 | 25 => 110 | 26 => 111 | 27 => 112 | 28 => 113 | 29 => 114 | 30 => 115 | 31 => 121 | n => n, fun | 26 => 9 | 28 => 83 | 24 => 50 | 0 => 0 | 3 => 3 | 37 => 96 | 48 => 97 | 50 => 86 | 4 => 4 | 40 => 124 | 39 => 123 | 45 => 129 | 5 => 5 | 9 => 9 | 51 => 142 | 55 => 146 | 57 => 156 | 58 => 157 | 33 => 93 | n => n, fun | n => n⟩
theorem Tryz.sorted_ : Go.Proofs.SlLaysZ.n6 Tryz.prog Tryz.sorted__ren := {
  mixed := by kernel_rfl
  f6 := ⟨Tryz.f51.name, by decide, Tryz.func51.trans (congrArg some (by kernel_rfl))⟩
  f8 := ⟨Tryz.f64.name, by decide, Tryz.func64.trans (congrArg some (by kernel_rfl))⟩
  f11 := ⟨Tryz.f79.name, by decide, Tryz.func79.trans (congrArg some (by kernel_rfl))⟩
  t0 := Tryz.underlying0
  a0 := Tryz.isAgg0
  z0 := Tryz.sizeOf0
  v0 := Tryz.zeroValue0
  t24 := Tryz.underlying50
  a24 := Tryz.isAgg50
  z24 := Tryz.sizeOf50
  v24 := Tryz.zeroValue50
  t26 := Tryz.underlying9
  a26 := Tryz.isAgg9
  z26 := Tryz.sizeOf9
  v26 := Tryz.zeroValue9
  t28 := Tryz.underlying83
  a28 := Tryz.isAgg83
  z28 := Tryz.sizeOf83
  v28 := Tryz.zeroValue83
  i26 := by kernel_rfl }
def Tryz.sort__ren : Go.Shelf.Ren := ⟨fun | 6 => 65 | 8 => 81 | 9 => 80 | 19 => 98 | 20 => 99 | 21 => 89 | 22 => 90 | 23 => 91 | 24 => 92 | 25 => 93 | 26 => 94 | 27 => 95 | 28 => 96 | 29 => 97 | 36 => 110 | 31 => 111 | 32 => 112 | 37 => 113 | 38 => 114 | 39 => 115 | 41 => 121 | n => n, fun | 27 => 50 | 29 => 9 | 3 => 3 | 32 => 96 | 26 => 50 | 0 => 0 | 44 => 97 | 46 => 86 | 4 => 4 | 36 => 124 | 35 => 123 | 41 => 129 | 5 => 5 | 9 => 9 | 53 => 142 | 57 => 146 | 63 => 156 | 64 => 157 | n => n, fun | n => n⟩
theorem Tryz.sort_ : Go.Proofs.SlLaysM.n6 Tryz.prog Tryz.sort__ren := {
  mixed := by kernel_rfl
  f6 := ⟨Tryz.f65.name, by decide, Tryz.func65.trans (congrArg some (by kernel_rfl))⟩
  f8 := Tryz.func81.trans (congrArg some (by kernel_rfl))
  f9 := ⟨Tryz.f80.name, by decide, Tryz.func80.trans (congrArg some (by kernel_rfl))⟩
  f19 := Tryz.func98.trans (congrArg some (by kernel_rfl))
  f20 := Tryz.func99.trans (congrArg some (by kernel_rfl))
  f21 := ⟨Tryz.f89.name, by decide, Tryz.func89.trans (congrArg some (by kernel_rfl))⟩
  f22 := ⟨Tryz.f90.name, by decide, Tryz.func90.trans (congrArg some (by kernel_rfl))⟩
  f23 := ⟨Tryz.f91.name, by decide, Tryz.func91.trans (congrArg some (by kernel_rfl))⟩
  f24 := ⟨Tryz.f92.name, by decide, Tryz.func92.trans (congrArg some (by kernel_rfl))⟩
  f25 := ⟨Tryz.f93.name, by decide, Tryz.func93.trans (congrArg some (by kernel_rfl))⟩
  f26 := ⟨Tryz.f94.name, by decide, Tryz.func94.trans (congrArg some (by kernel_rfl))⟩
  f27 := ⟨Tryz.f95.name, by decide, Tryz.func95.trans (congrArg some (by kernel_rfl))⟩
  f28 := ⟨Tryz.f96.name, by decide, Tryz.func96.trans (congrArg some (by kernel_rfl))⟩
  f29 := ⟨Tryz.f97.name, by decide, Tryz.func97.trans (congrArg some (by kernel_rfl))⟩
  f31 := Tryz.func111.trans (congrArg some (by kernel_rfl))
  f32 := Tryz.func112.trans (congrArg some (by kernel_rfl))
  f36 := ⟨Tryz.f110.name, by decide, Tryz.func110.trans (congrArg some (by kernel_rfl))⟩
  f37 := ⟨Tryz.f113.name, by decide, Tryz.func113.trans (congrArg some (by kernel_rfl))⟩
  f38 := ⟨Tryz.f114.name, by decide, Tryz.func114.trans (congrArg some (by kernel_rfl))⟩
  f39 := ⟨Tryz.f115.name, by decide, Tryz.func115.trans (congrArg some (by kernel_rfl))⟩
  f41 := ⟨Tryz.f121.name, by decide, Tryz.func121.trans (congrArg some (by kernel_rfl))⟩
  t0 := Tryz.underlying0
  a0 := Tryz.isAgg0
  z0 := Tryz.sizeOf0
  v0 := Tryz.zeroValue0
  t3 := Tryz.underlying3
  a3 := Tryz.isAgg3
  z3 := Tryz.sizeOf3
  v3 := Tryz.zeroValue3
  t4 := Tryz.underlying4
  a4 := Tryz.isAgg4
  z4 := Tryz.sizeOf4
  v4 := Tryz.zeroValue4
  t5 := Tryz.underlying5
  a5 := Tryz.isAgg5
  z5 := Tryz.sizeOf5
  v5 := Tryz.zeroValue5
  t9 := Tryz.underlying9
  a9 := Tryz.isAgg9
  z9 := Tryz.sizeOf9
  v9 := Tryz.zeroValue9
  t26 := Tryz.underlying50
  a26 := Tryz.isAgg50
  z26 := Tryz.sizeOf50
  v26 := Tryz.zeroValue50
  t27 := Tryz.underlying50
  a27 := Tryz.isAgg50
  z27 := Tryz.sizeOf50
  v27 := Tryz.zeroValue50
  t29 := Tryz.underlying9
  a29 := Tryz.isAgg9
  z29 := Tryz.sizeOf9
  v29 := Tryz.zeroValue9
  t32 := Tryz.underlying96
  a32 := Tryz.isAgg96
  z32 := Tryz.sizeOf96
  v32 := Tryz.zeroValue96
  t35 := Tryz.underlying123
  a35 := Tryz.isAgg123
  z35 := Tryz.sizeOf123
  v35 := Tryz.zeroValue123
  t36 := Tryz.underlying124
  a36 := Tryz.isAgg124
  z36 := Tryz.sizeOf124
  v36 := Tryz.zeroValue124
  t41 := Tryz.underlying129
  a41 := Tryz.isAgg129
  z41 := Tryz.sizeOf129
  v41 := Tryz.zeroValue129
  t44 := Tryz.underlying97
  a44 := Tryz.isAgg97
  z44 := Tryz.sizeOf97
  v44 := Tryz.zeroValue97
  t46 := Tryz.underlying86
  a46 := Tryz.isAgg86
  z46 := Tryz.sizeOf86
  v46 := Tryz.zeroValue86
  t53 := Tryz.underlying142
  a53 := Tryz.isAgg142
  z53 := Tryz.sizeOf142
  v53 := Tryz.zeroValue142
  t57 := Tryz.underlying146
  a57 := Tryz.isAgg146
  z57 := Tryz.sizeOf146
  v57 := Tryz.zeroValue146
  t63 := Tryz.underlying156
  a63 := Tryz.isAgg156
  z63 := Tryz.sizeOf156
  v63 := Tryz.zeroValue156
  t64 := Tryz.underlying157
  a64 := Tryz.isAgg157
  z64 := Tryz.sizeOf157
  v64 := Tryz.zeroValue157 }
open Go.RowKit in
theorem Tryz.Clone (s : ByteArray) (w : World) (hlim : s.size ≤ 281474976710656) :
    Calls Tryz.prog 78 #[.string s] w fun e w' => e = .returned (.string s) ∧ Below w.heap.size w w' := Any.stringslite_Clone Tryz.clone_ s w hlim
open Go.RowKit Go.Lib in
theorem Tryz.ContF (g : Nat) (lb : Array Value) (eg : ∀ args w, (callFunc g args).run Tryz.prog w = .ok (.enter g args) w) (p : Nat → Bool) (s : ByteArray) (w : World) (hp : PredAtRunes Tryz.prog g lb p w) :
    Calls Tryz.prog 76 #[.string s, .func (.func g) #[] lb] w fun e w' => e = .returned (.bool (decide (0 ≤ Lib.idxFunc p true s))) ∧ Below w.heap.size w w' := Any.strings_ContainsFunc_runes Tryz.contF_ g lb eg p s w hp
def Tryz.trim__ren : Go.Shelf.Ren := ⟨fun | 101 => 71 | 208 => 85 | 206 => 106 | n => n, fun | 9 => 9 | 4 => 4 | 3 => 3 | n => n, fun | n => n⟩
theorem Tryz.trim_ : Go.Proofs.Lays.n101 Tryz.prog Tryz.trim__ren := {
  mixed := by kernel_rfl
  f101 := Tryz.func71.trans (congrArg some (by kernel_rfl))
  f206 := Tryz.func106.trans (congrArg some (by kernel_rfl))
  f208 := Tryz.func85.trans (congrArg some (by kernel_rfl))
  t3 := Tryz.underlying3
  a3 := Tryz.isAgg3
  z3 := Tryz.sizeOf3
  v3 := Tryz.zeroValue3
  t4 := Tryz.underlying4
  a4 := Tryz.isAgg4
  z4 := Tryz.sizeOf4
  v4 := Tryz.zeroValue4
  t9 := Tryz.underlying9
  a9 := Tryz.isAgg9
  z9 := Tryz.sizeOf9
  v9 := Tryz.zeroValue9 }
def Tryz.atoi__ren : Go.Shelf.Ren := ⟨fun | 172 => 70 | 244 => 83 | 245 => 84 | 247 => 101 | 279 => 102 | 280 => 103 | 281 => 104 | 282 => 105 | 287 => 117 | 316 => 78 | 171 => 119 | 205 => 118 | 321 => 122 | 322 => 123 | 243 => 124 | 246 => 125 | 283 => 126 | 284 => 127 | 285 => 128 | 286 => 129 | 129 => 99 | 317 => 130 | 318 => 131 | 319 => 132 | 320 => 133 | 337 => 134 | 338 => 135 | n => n, fun | 9 => 9 | 3 => 3 | 75 => 101 | 76 => 102 | 4 => 4 | 5 => 5 | 167 => 134 | 37 => 32 | 0 => 0 | 85 => 135 | 2 => 2 | 168 => 137 | 53 => 86 | 175 => 149 | 46 => 96 | 210 => 152 | 127 => 121 | 145 => 162 | 143 => 160 | 21 => 21 | 171 => 164 | 173 => 166 | 212 => 169 | 51 => 97 | 20 => 20 | 213 => 170 | 232 => 171 | 233 => 172 | 80 => 173 | n => n, fun | 15 => 0 | 16 => 1 | 17 => 2 | 18 => 3 | 19 => 4 | n => n⟩
theorem Tryz.atoi_ : Go.Proofs.Lays.n172 Tryz.prog Tryz.atoi__ren := {
  mixed := by kernel_rfl
  f129 := Tryz.func99.trans (congrArg some (by kernel_rfl))
  f171 := Tryz.func119.trans (congrArg some (by kernel_rfl))
  f172 := Tryz.func70.trans (congrArg some (by kernel_rfl))
  f205 := Tryz.func118.trans (congrArg some (by kernel_rfl))
  f243 := Tryz.func124.trans (congrArg some (by kernel_rfl))
  f244 := Tryz.func83.trans (congrArg some (by kernel_rfl))
  f245 := Tryz.func84.trans (congrArg some (by kernel_rfl))
  f246 := Tryz.func125.trans (congrArg some (by kernel_rfl))
  f247 := Tryz.func101.trans (congrArg some (by kernel_rfl))
  f279 := Tryz.func102.trans (congrArg some (by kernel_rfl))
  f280 := Tryz.func103.trans (congrArg some (by kernel_rfl))
  f281 := Tryz.func104.trans (congrArg some (by kernel_rfl))
  f282 := Tryz.func105.trans (congrArg some (by kernel_rfl))
  f283 := Tryz.func126.trans (congrArg some (by kernel_rfl))
  f284 := Tryz.func127.trans (congrArg some (by kernel_rfl))
  f285 := Tryz.func128.trans (congrArg some (by kernel_rfl))
  f286 := Tryz.func129.trans (congrArg some (by kernel_rfl))
  f287 := Tryz.func117.trans (congrArg some (by kernel_rfl))
  f316 := Tryz.func78.trans (congrArg some (by kernel_rfl))
  f317 := Tryz.func130.trans (congrArg some (by kernel_rfl))
  f318 := Tryz.func131.trans (congrArg some (by kernel_rfl))
  f319 := Tryz.func132.trans (congrArg some (by kernel_rfl))
  f320 := Tryz.func133.trans (congrArg some (by kernel_rfl))
  f321 := Tryz.func122.trans (congrArg some (by kernel_rfl))
  f322 := Tryz.func123.trans (congrArg some (by kernel_rfl))
  f337 := Tryz.func134.trans (congrArg some (by kernel_rfl))
  f338 := Tryz.func135.trans (congrArg some (by kernel_rfl))
  t0 := Tryz.underlying0
  a0 := Tryz.isAgg0
  z0 := Tryz.sizeOf0
  v0 := Tryz.zeroValue0
  t2 := Tryz.underlying2
  a2 := Tryz.isAgg2
  z2 := Tryz.sizeOf2
  v2 := Tryz.zeroValue2
  t3 := Tryz.underlying3
  a3 := Tryz.isAgg3
  z3 := Tryz.sizeOf3
  v3 := Tryz.zeroValue3
  t4 := Tryz.underlying4
  a4 := Tryz.isAgg4
  z4 := Tryz.sizeOf4
  v4 := Tryz.zeroValue4
  t5 := Tryz.underlying5
  a5 := Tryz.isAgg5
  z5 := Tryz.sizeOf5
  v5 := Tryz.zeroValue5
  t9 := Tryz.underlying9
  a9 := Tryz.isAgg9
  z9 := Tryz.sizeOf9
  v9 := Tryz.zeroValue9
  t20 := Tryz.underlying20
  a20 := Tryz.isAgg20
  z20 := Tryz.sizeOf20
  v20 := Tryz.zeroValue20
  t21 := Tryz.underlying21
  a21 := Tryz.isAgg21
  z21 := Tryz.sizeOf21
  v21 := Tryz.zeroValue21
  t37 := Tryz.underlying32
  a37 := Tryz.isAgg32
  z37 := Tryz.sizeOf32
  v37 := Tryz.zeroValue32
  t46 := Tryz.underlying96
  a46 := Tryz.isAgg96
  z46 := Tryz.sizeOf96
  v46 := Tryz.zeroValue96
  t51 := Tryz.underlying97
  a51 := Tryz.isAgg97
  z51 := Tryz.sizeOf97
  v51 := Tryz.zeroValue97
  t53 := Tryz.underlying86
  a53 := Tryz.isAgg86
  z53 := Tryz.sizeOf86
  v53 := Tryz.zeroValue86
  t75 := Tryz.underlying101
  a75 := Tryz.isAgg101
  z75 := Tryz.sizeOf101
  v75 := Tryz.zeroValue101
  t76 := Tryz.underlying102
  a76 := Tryz.isAgg102
  z76 := Tryz.sizeOf102
  v76 := Tryz.zeroValue102
  t85 := Tryz.underlying135
  a85 := Tryz.isAgg135
  z85 := Tryz.sizeOf135
  v85 := Tryz.zeroValue135
  t127 := Tryz.underlying121
  a127 := Tryz.isAgg121
  z127 := Tryz.sizeOf121
  v127 := Tryz.zeroValue121
  t143 := Tryz.underlying160
  a143 := Tryz.isAgg160
  z143 := Tryz.sizeOf160
  v143 := Tryz.zeroValue160
  t145 := Tryz.underlying162
  a145 := Tryz.isAgg162
  z145 := Tryz.sizeOf162
  v145 := Tryz.zeroValue162
  t167 := Tryz.underlying134
  a167 := Tryz.isAgg134
  z167 := Tryz.sizeOf134
  v167 := Tryz.zeroValue134
  t168 := Tryz.underlying137
  a168 := Tryz.isAgg137
  z168 := Tryz.sizeOf137
  v168 := Tryz.zeroValue137
  t171 := Tryz.underlying164
  a171 := Tryz.isAgg164
  z171 := Tryz.sizeOf164
  v171 := Tryz.zeroValue164
  t173 := Tryz.underlying166
  a173 := Tryz.isAgg166
  z173 := Tryz.sizeOf166
  v173 := Tryz.zeroValue166
  t175 := Tryz.underlying149
  a175 := Tryz.isAgg149
  z175 := Tryz.sizeOf149
  v175 := Tryz.zeroValue149
  t210 := Tryz.underlying152
  a210 := Tryz.isAgg152
  z210 := Tryz.sizeOf152
  v210 := Tryz.zeroValue152
  t212 := Tryz.underlying169
  a212 := Tryz.isAgg169
  z212 := Tryz.sizeOf169
  v212 := Tryz.zeroValue169
  t213 := Tryz.underlying170
  a213 := Tryz.isAgg170
  z213 := Tryz.sizeOf170
  t232 := Tryz.underlying171
  a232 := Tryz.isAgg171
  z232 := Tryz.sizeOf171
  v232 := Tryz.zeroValue171
  t233 := Tryz.underlying172
  a233 := Tryz.isAgg172
  z233 := Tryz.sizeOf172
  v233 := Tryz.zeroValue172
  g15 := by kernel_rfl
  g16 := by kernel_rfl
  g17 := by kernel_rfl
  g18 := by kernel_rfl
  g19 := by kernel_rfl }
def Tryz.cons__ren : Go.Shelf.Ren := ⟨fun | 110 => 59 | 109 => 72 | n => n, fun | 31 => 50 | 9 => 9 | 4 => 4 | 3 => 3 | 0 => 0 | n => n, fun | n => n⟩
theorem Tryz.cons_ : Go.Proofs.Lays.n110 Tryz.prog Tryz.cons__ren := {
  mixed := by kernel_rfl
  f109 := Tryz.func72.trans (congrArg some (by kernel_rfl))
  f110 := Tryz.func59.trans (congrArg some (by kernel_rfl))
  t0 := Tryz.underlying0
  a0 := Tryz.isAgg0
  z0 := Tryz.sizeOf0
  v0 := Tryz.zeroValue0
  t3 := Tryz.underlying3
  a3 := Tryz.isAgg3
  z3 := Tryz.sizeOf3
  v3 := Tryz.zeroValue3
  t4 := Tryz.underlying4
  a4 := Tryz.isAgg4
  z4 := Tryz.sizeOf4
  v4 := Tryz.zeroValue4
  t9 := Tryz.underlying9
  a9 := Tryz.isAgg9
  z9 := Tryz.sizeOf9
  v9 := Tryz.zeroValue9
  t31 := Tryz.underlying50
  a31 := Tryz.isAgg50
  z31 := Tryz.sizeOf50
  v31 := Tryz.zeroValue50 }
def Tryz.rev__ren : Go.Shelf.Ren := ⟨fun | 112 => 43 | n => n, fun | 28 => 26 | 3 => 3 | 4 => 4 | 0 => 0 | n => n, fun | n => n⟩
theorem Tryz.rev_ : Go.Proofs.Lays.n112 Tryz.prog Tryz.rev__ren := {
  mixed := by kernel_rfl
  f112 := Tryz.func43.trans (congrArg some (by kernel_rfl))
  t0 := Tryz.underlying0
  a0 := Tryz.isAgg0
  z0 := Tryz.sizeOf0
  v0 := Tryz.zeroValue0
  t3 := Tryz.underlying3
  a3 := Tryz.isAgg3
  z3 := Tryz.sizeOf3
  v3 := Tryz.zeroValue3
  t4 := Tryz.underlying4
  a4 := Tryz.isAgg4
  z4 := Tryz.sizeOf4
  v4 := Tryz.zeroValue4
  t28 := Tryz.underlying26
  a28 := Tryz.isAgg26
  z28 := Tryz.sizeOf26
  v28 := Tryz.zeroValue26 }
open Go.RowKit in
theorem Tryz.TrimP (s p : ByteArray) (w : World) :
    Calls Tryz.prog 71 #[.string s, .string p] w fun e w' => e = .returned (.string ⟨(Lib.trimPrefix s.data.toList p.data.toList).toArray⟩) ∧ w' = w := Any.strings_TrimPrefix Tryz.trim_ s p w
open Go.RowKit in
theorem Tryz.AtoiN (s : ByteArray) (n : Int) (hl : s.size ≤ 18) (h : Lib.atoi s.data.toList = some n) (w : World) :
    Calls Tryz.prog 70 #[.string s] w fun e w' => e = .returned (.tuple #[.int .i64 n, .nilIface]) ∧ ∃ t, w' = Lib.bytesWorld w (Tryz.atoi__ren.t 5) t := Any.strconv_Atoi Tryz.atoi_ s n hl h w
open Go.RowKit in
theorem Tryz.ConS (b off n c : Nat) (zs : List ByteArray) (x : ByteArray) (w : World) (hz : n ≤ zs.length) (hbig : n ≤ 9223372036854775807) (hc : ∀ j, j < zs.length → w.cell? ⟨b, off + j, none⟩ = some (.string (zs.getD j ByteArray.empty))) :
    Calls Tryz.prog 59 #[.slice (some ⟨b, off, none⟩) n c, .string x] w fun e w' => e = .returned (.bool (Lib.containsS (zs.take n) x)) ∧ w' = w := Any.slices_Contains_string Tryz.cons_ b off n c zs x w hz hbig hc
open Go.RowKit in
theorem Tryz.ConS0 (a : Option Addr) (c : Nat) (x : ByteArray) (w : World) :
    Calls Tryz.prog 59 #[.slice a 0 c, .string x] w fun e w' => e = .returned (.bool false) ∧ w' = w := Any.slices_Contains_string_empty Tryz.cons_ a c x w
open Go.RowKit Go.Sort in
theorem Tryz.RevI (blk off cap : Nat) (zs : List Int) (w : World) (hH : Holds (Value.int .i64) w blk off zs.toArray) (hsz : zs.length ≤ 9223372036854775807) :
    Calls Tryz.prog 43 #[.slice (some ⟨blk, off, none⟩) zs.length cap] w fun e w' => e = .returned (.tuple #[]) ∧ ∃ n, w' = putRow (Value.int .i64) (Sort.ahead w n) blk off zs.reverse.toArray := Any.slices_Reverse_int Tryz.rev_ blk off cap zs w hH hsz
open Go.RowKit in
theorem Tryz.RevI0 (a : Option Addr) (cap : Nat) (w : World) :
    Calls Tryz.prog 43 #[.slice a 0 cap] w fun e w' => e = .returned (.tuple #[]) ∧ w' = w := Any.slices_Reverse_int_empty Tryz.rev_ a cap w
end Go.Proofs
/- Which texts are names: the program's question and the reference's; what stands against a call. -/
namespace Go.Proofs.YtbacgljeadalbaaGreatDoor.Dk
open Go.RowKit Go.Maps Go.WideElems
open Go.Proofs.YtbacgljeadalbaaGreatDoor.Me Go.Proofs.YtbacgljeadalbaaGreatDoor.Hd
set_option linter.unusedVariables false
set_option linter.unusedSimpArgs false

/-! ### Runes of names -/
def strR (r : Nat) : Bool := !((decide (97 ≤ r) && decide (r ≤ 122)) || (decide (48 ≤ r) && decide (r ≤ 57)) || decide (r = 46))
theorem strR_ch (b : UInt8) : strR b.toNat = !chOk b := rfl
theorem dec_low {s : ByteArray} {i : Nat} (h : (s.get! i).toNat < 128) : Utf8.decode s i = ((s.get! i).toNat, 1) := by
  unfold Utf8.decode
  simp only [Nat.add_zero]
  rw [if_pos h]
theorem dec_high {s : ByteArray} {i : Nat} (h : ¬ (s.get! i).toNat < 128) : 128 ≤ (Utf8.decode s i).1 := by
  unfold Utf8.decode
  simp only [Nat.add_zero]
  rw [if_neg h]
  have e : Utf8.runeError = 65533 := rfl
  repeat' split
  all_goals first
    | (rw [e]; omega)
    | (rename_i h; simp at h; omega)
    | (rename_i h; simp only [ge_iff_le, Bool.and_eq_true, decide_eq_true_eq] at h; show 128 ≤ _; omega)
    | omega
theorem strR_high {r : Nat} (h : 128 ≤ r) : strR r = true := by
  have h1 : ¬ r ≤ 122 := by omega
  have h2 : ¬ r ≤ 57 := by omega
  have h3 : ¬ r = 46 := by omega
  simp [strR, h1, h2, h3]
theorem sz (n : Nm) : (⟨n.toArray⟩ : ByteArray).size = n.length := rfl
theorem get_nm (n : Nm) {i : Nat} (h : i < n.length) : (⟨n.toArray⟩ : ByteArray).get! i = n[i] := by
  show n.toArray[i]! = n[i]
  simp [h]
theorem chOk_low {b : UInt8} (h : chOk b = true) : b.toNat < 128 := by
  simp only [chOk, Bool.or_eq_true, Bool.and_eq_true, decide_eq_true_eq] at h
  omega
theorem idx_all (n : Nm) : ∀ f pos, n.length ≤ pos + f → decide (0 ≤ Lib.idxFuncFrom strR true ⟨n.toArray⟩ f pos) = !(n.drop pos).all chOk
  | 0, pos, h => by
    have : n.drop pos = [] := by rw [List.drop_eq_nil_iff]; omega
    rw [this]; rfl
  | f + 1, pos, h => by
    unfold Lib.idxFuncFrom
    by_cases hp : pos < n.length
    · rw [if_pos (by rw [sz]; exact hp), List.drop_eq_getElem_cons hp]
      simp only [List.all_cons]
      by_cases hc : chOk n[pos] = true
      · have hd := dec_low (s := ⟨n.toArray⟩) (i := pos) (by rw [get_nm n hp]; exact chOk_low hc)
        rw [get_nm n hp] at hd
        rw [hd, strR_ch, hc]
        simp only [Bool.not_true, Bool.false_eq_true, if_false, Bool.true_and]
        exact idx_all n f (pos + 1) (by omega)
      · have hc' : chOk n[pos] = false := by simpa using hc
        have hs : strR (Utf8.decode ⟨n.toArray⟩ pos).1 = true := by
          by_cases hl : n[pos].toNat < 128
          · rw [dec_low (by rw [get_nm n hp]; exact hl), get_nm n hp, strR_ch, hc']; rfl
          · exact strR_high (dec_high (by rw [get_nm n hp]; exact hl))
        rw [if_pos hs, hc']
        simp
    · rw [if_neg (by rw [sz]; exact hp)]
      have : n.drop pos = [] := by rw [List.drop_eq_nil_iff]; omega
      rw [this]; rfl
theorem idx_nm (n : Nm) : decide (0 ≤ Lib.idxFunc strR true ⟨n.toArray⟩) = !n.all chOk := by
  unfold Lib.idxFunc
  rw [idx_all n _ 0 (by rw [sz]; omega)]
  simp
theorem strange (w : World) : PredAtRunes Tryz.prog 77 #[] strR w := fun W r _ _ => by
  unfold FnGives
  have z1 : (97 : Int) ≤ (r : Int) ↔ 97 ≤ r := by omega
  have z2 : (r : Int) ≤ 122 ↔ r ≤ 122 := by omega
  have z3 : (48 : Int) ≤ (r : Int) ↔ 48 ≤ r := by omega
  have z4 : (r : Int) ≤ 57 ↔ r ≤ 57 := by omega
  have z5 : (r : Int) = 46 ↔ r = 46 := by omega
  by_cases h1 : 97 ≤ r <;> by_cases h2 : r ≤ 122 <;> by_cases h3 : 48 ≤ r <;> by_cases h4 : r ≤ 57 <;> by_cases h5 : r = 46
  all_goals first | (exfalso; omega) | skip
  all_goals
    have hs : Hid (strR r = strR r) := rfl
    have h5' : ((r : Int) == 46) = decide (r = 46) := by
      by_cases e : r = 46
      · subst e; rfl
      · have : ¬ (r : Int) = 46 := by omega
        simp [e, this]
    go_enter Tryz.func77, Tryz.ntmps77
    go_wp2
    go_ret
    exact ⟨by simp [strR, h1, h2, h3, h4, h5], 0, rfl⟩
theorem isNoName_any (n : Nm) (w : World) : Calls Tryz.prog 62 #[nmV n] w fun e w' => e = .returned (.bool (!nameOk n)) ∧ Below w.heap.size w w' := by
  have hC := Lib.hid (fun W => Tryz.ContF 77 #[] (enters_of Tryz.func77 (by kernel_rfl) rfl) strR ⟨n.toArray⟩ W (strange W))
  simp only [idx_nm] at hC
  have hsz : (⟨n.toArray⟩ : ByteArray).size = n.length := by simp [ByteArray.size]
  obtain ⟨s, hs⟩ : ∃ s, (⟨n.toArray⟩ : ByteArray) = s := ⟨_, rfl⟩
  obtain ⟨L, hL⟩ : ∃ L, n.length = L := ⟨_, rfl⟩
  obtain ⟨c, hc⟩ : ∃ c, n.all chOk = c := ⟨_, rfl⟩
  have hN : nameOk n = (decide (1 ≤ L) && decide (L ≤ 12) && c) := by rw [← hL, ← hc]; rfl
  rw [hs, hc] at hC
  show Calls Tryz.prog 62 #[.string ⟨n.toArray⟩] w _
  rw [hs] at hsz ⊢
  rw [hL] at hsz
  rw [hN]
  clear hN hc hL hs
  by_cases h1 : L < 1
  · have g1 : (s.size : Int) < 1 := by omega
    have HR : Hid ((!(decide (1 ≤ L) && decide (L ≤ 12) && c)) = true) := by
      have : ¬ 1 ≤ L := by omega
      show _ = _
      simp [this]
    rw [HR.out]
    clear h1 hsz
    go_enter Tryz.func62, Tryz.ntmps62
    go_wp2
    go_ret
    exact ⟨rfl, Below.refl _ _⟩
  · by_cases h2 : 12 < L
    · have g1 : ¬ (s.size : Int) < 1 := by omega
      have g2 : (12 : Int) < (s.size : Int) := by omega
      have HR : Hid ((!(decide (1 ≤ L) && decide (L ≤ 12) && c)) = true) := by
        have : ¬ L ≤ 12 := by omega
        show _ = _
        simp [this]
      rw [HR.out]
      clear h1 hsz h2
      go_enter Tryz.func62, Tryz.ntmps62
      go_wp2
      go_ret
      exact ⟨rfl, Below.refl _ _⟩
    · have g1 : ¬ (s.size : Int) < 1 := by omega
      have g2 : ¬ (12 : Int) < (s.size : Int) := by omega
      have HR : Hid ((!(decide (1 ≤ L) && decide (L ≤ 12) && c)) = !c) := by
        have a1 : 1 ≤ L := by omega
        have a2 : L ≤ 12 := by omega
        show _ = _
        simp [a1, a2]
      rw [HR.out]
      clear h1 hsz h2
      go_enter Tryz.func62, Tryz.ntmps62
      go_wp2_with (go_at_call 76; refine (hC.out _).mono ?_; rintro e w1 ⟨rfl, hb1⟩)
      go_ret
      exact ⟨rfl, hb1⟩
end Go.Proofs.YtbacgljeadalbaaGreatDoor.Dk
/- The file of any segment; the number of a segment's file. -/
namespace Go.Proofs.YtbacgljeadalbaaGreatDoor.Wl
open Go.RowKit
open Go.Proofs.YtbacgljeadalbaaGreatDoor.Me Go.Proofs.YtbacgljeadalbaaGreatDoor.Hd Go.Proofs.YtbacgljeadalbaaGreatDoor.Dk
set_option linter.unusedVariables false
set_option linter.unusedSimpArgs false

theorem isNumber_any (k : Int) (w : World) : Calls Tryz.prog 28 #[.int .i64 k] w fun e w' => e = .returned (.bool (decide (1 ≤ k ∧ k ≤ 99999))) ∧ w = w' := by
  by_cases a : 1 ≤ k
  · by_cases b : k ≤ 99999
    · have HE : Hid (decide (1 ≤ k ∧ k ≤ 99999) = true) := decide_eq_true ⟨a, b⟩
      rw [HE.out]
      go_enter Tryz.func28, Tryz.ntmps28
      go_wp2
      go_ret
      exact ⟨rfl, rfl⟩
    · have HE : Hid (decide (1 ≤ k ∧ k ≤ 99999) = false) := decide_eq_false fun h => b h.2
      rw [HE.out]
      go_enter Tryz.func28, Tryz.ntmps28
      go_wp2
      go_ret
      exact ⟨rfl, rfl⟩
  · have HE : Hid (decide (1 ≤ k ∧ k ≤ 99999) = false) := decide_eq_false fun h => a h.1
    rw [HE.out]
    go_enter Tryz.func28, Tryz.ntmps28
    go_wp2
    go_ret
    exact ⟨rfl, rfl⟩

/-! ### The digits are laid in an array -/
def dN (k m : Nat) : Nat := 48 + k / 10 ^ (5 - m) % 10
/-- The bytes when those behind place j are laid. -/
def rowN (k j : Nat) : List Nat := [119, if 1 ≤ j then 0 else dN k 1, if 2 ≤ j then 0 else dN k 2, if 3 ≤ j then 0 else dN k 3, if 4 ≤ j then 0 else dN k 4, if 5 ≤ j then 0 else dN k 5]
theorem dN_lt (k m : Nat) : dN k m < 256 := by
  unfold dN
  have : k / 10 ^ (5 - m) % 10 < 10 := Nat.mod_lt _ (by decide)
  omega
theorem rowN_set (k : Nat) {j : Nat} (h : 1 ≤ j) (h5 : j ≤ 5) : (rowN k j).set j (dN k j) = rowN k (j - 1) := by
  obtain rfl | rfl | rfl | rfl | rfl : j = 1 ∨ j = 2 ∨ j = 3 ∨ j = 4 ∨ j = 5 := by omega
  all_goals simp [rowN]
theorem rowN_lt (k j : Nat) : ∀ z ∈ rowN k j, z < 256 := by
  have f : ∀ m, (if m ≤ j then 0 else dN k m) < 256 := fun m => by
    split
    · omega
    · exact dN_lt k m
  intro z hz
  simp only [rowN, List.mem_cons, List.not_mem_nil, or_false] at hz
  rcases hz with rfl | rfl | rfl | rfl | rfl | rfl
  · omega
  · exact f 1
  · exact f 2
  · exact f 3
  · exact f 4
  · exact f 5
theorem str_row (k : Nat) : Me.strOf (rowN k 0) = ⟨(nameW k).toArray⟩ := by
  simp [Me.strOf, rowN, nameW, dg, dN]
def zero6 : Array Value := #[.int .u8 0, .int .u8 0, .int .u8 0, .int .u8 0, .int .u8 0, .int .u8 0]
theorem alloc6 (ρ : Operand → Value) (o : Oper) (ho : o.op = .alloc 55) (w : World) : (execOp ρ o).run Tryz.prog w = .ok (.value (.pointer (some ⟨w.heap.size, 0, none⟩))) (w.alloc (.cells zero6 55 (0, 0))) := by
  unfold execOp
  rw [ho]
  kernel_rfl
/-- Block g holds these bytes. -/
def Nr (w : World) (g : Nat) (l : List Nat) : Prop := w.heap[g]? = some (.cells (l.map byV).toArray 55 (0, 0))
theorem Nr.lt {w : World} {g : Nat} {l : List Nat} (h : Nr w g l) : g < w.heap.size := (Array.getElem?_eq_some_iff.1 h).1
theorem Nr.cell {w : World} {g : Nat} {l : List Nat} (h : Nr w g l) {j : Nat} (hj : j < l.length) : w.cell? ⟨g, j, none⟩ = some (.int .u8 (by_ l j : Int)) := by
  rw [cell_of_row w g j _ _ (0, 0) h]
  simp [by_, hj, byV]
theorem Nr.frozen {w : World} {g : Nat} {l : List Nat} (h : Nr w g l) (j : Nat) : w.frozen? ⟨g, j, none⟩ = false := frozen_of_row w g j _ _ h
theorem Nr.put {w : World} {g : Nat} {l : List Nat} (h : Nr w g l) (j b : Nat) : Nr (w.setCell ⟨g, j, none⟩ (.int .u8 (b : Int))) g (l.set j b) := by
  unfold Nr
  rw [heap_setCell_same w g j _ _ _ h]
  congr 2
  apply Array.ext'
  simp [List.map_set, byV]
theorem Nr.rd {w : World} {g : Nat} {l : List Nat} (h : Nr w g l) (hl : ∀ z ∈ l, z < 256) : Rd w (g + 1) (some ⟨g, 0, none⟩) l :=
  ⟨hl, fun _ => ⟨g, 0, rfl, Nat.lt_succ_self _, fun j hj => by rw [Nat.zero_add]; exact h.cell hj⟩⟩
set_option maxHeartbeats 1000000 in
theorem Name_any (k : Int) (w : World) : Calls Tryz.prog 7 #[.int .i64 k] w fun e w' => e = .returned (nmV (nameI k)) ∧ Hid (Below w.heap.size w w') := by
  have HN := Lib.hid (isNumber_any k)
  by_cases h : 1 ≤ k ∧ k ≤ 99999
  · have HE : Hid (nameI k = nameW k.toNat) := if_pos h
    rw [decide_eq_true h] at HN
    rw [HE.out]
    show Calls Tryz.prog 7 #[.int .i64 k] w fun e w' => e = .returned (.string ⟨(nameW k.toNat).toArray⟩) ∧ _
    rw [← str_row]
    obtain ⟨K, hK⟩ : ∃ K : Nat, k = (K : Int) := ⟨k.toNat, by omega⟩
    subst hK
    rw [Int.toNat_natCast]
    have hK9 : K ≤ 99999 := by omega
    obtain ⟨S, hS⟩ : ∃ S, Me.strOf (rowN K 0) = S := ⟨_, rfl⟩
    rw [hS]
    have HSS := Lib.hid hS
    clear h HE hS
    go_enter Tryz.func7, Tryz.ntmps7
    go_wp2_with (first
      | (go_at_call 28; refine (HN.out _).mono ?_; rintro e w' ⟨rfl, rfl⟩)
      | (refine Mi.allocTo rfl (.pointer (some ⟨_, 0, none⟩)) (.cells zero6 55 (0, 0)) (alloc6 _ _ rfl _) ?_; obtain ⟨W1, hW1⟩ : ∃ W1, w.alloc (.cells zero6 55 (0, 0)) = W1 := ⟨_, rfl⟩; have z1 : Nr W1 w.heap.size [0, 0, 0, 0, 0, 0] := (by rw [← hW1]; exact heap_alloc_new w _); have b1 : Below w.heap.size w W1 := (by rw [← hW1]; exact Me.below_alloc (Below.refl _ _)); rw [hW1]; have q0 := z1.cell (j := 0) (by decide); have q1 := z1.frozen 0; have Z1 := Lib.hid z1; have B1 := Lib.hid b1; clear z1 b1 hW1))
    have Z2 : Hid (Nr (W1.setCell ⟨w.heap.size, 0, none⟩ (.int .u8 119)) w.heap.size (rowN K 5)) := Z1.out.put 0 119
    have B2 : Hid (Below w.heap.size w (W1.setCell ⟨w.heap.size, 0, none⟩ (.int .u8 119))) := B1.out.setCell (p := ⟨w.heap.size, 0, none⟩) (Nat.le_refl _) _
    clear q0 q1
    go_loopw [0, 4] (fun kk ii wr => ∃ j : Nat, j ≤ 5 ∧ ii = .int .i64 j ∧ kk = .int .i64 ((K / 10 ^ (5 - j) : Nat) : Int) ∧ Nr wr w.heap.size (rowN K j) ∧ Below w.heap.size w wr) (fun _ ii _ => (intOf ii).toNat)
    case atStart => exact ⟨5, Nat.le_refl _, rfl, by simp, Z2.out, B2.out⟩
    case round =>
      obtain ⟨j, hj, rfl, rfl, hz, hb⟩ := hrel
      have HZ := Lib.hid hz
      have HB := Lib.hid hb
      by_cases hlt : 0 < j
      · have hlen : j < (rowN K j).length := by show j < 6; omega
        have c1 := hz.cell hlen
        have f1 := hz.frozen j
        obtain ⟨x, hx⟩ : ∃ x, by_ (rowN K j) j = x := ⟨_, rfl⟩
        rw [hx] at c1
        have HP : Hid (Nr (wr.setCell ⟨w.heap.size, j, none⟩ (.int .u8 (dN K j : Int))) w.heap.size (rowN K (j - 1))) := by
          have := hz.put j (dN K j)
          rw [rowN_set K hlt hj] at this
          exact this
        have hq : K / 10 ^ (5 - (j - 1)) = K / 10 ^ (5 - j) / 10 := by
          rw [Nat.div_div_eq_div_mul, ← Nat.pow_succ]
          congr 2
          omega
        have HQ := Lib.hid hq
        obtain ⟨y, hy⟩ : ∃ y, K / 10 ^ (5 - j) = y := ⟨_, rfl⟩
        have hd : dN K j = 48 + y % 10 := by unfold dN; rw [hy]
        have hy9 : y ≤ 99999 := by rw [← hy]; exact Nat.le_trans (Nat.div_le_self _ _) hK9
        rw [hd] at HP
        rw [hy] at HQ ⊢
        obtain ⟨t, ht⟩ : ∃ t, y % 10 = t := ⟨_, rfl⟩
        have ht9 : t < 10 := by omega
        have r1 : ((y : Int)).tmod 10 = (t : Int) := by rw [← ht]; exact (Int.ofNat_tmod y 10).symm
        obtain ⟨q, hqq⟩ : ∃ q, y / 10 = q := ⟨_, rfl⟩
        have hq9 : q ≤ 99999 := by omega
        have r2 : ((y : Int)).tdiv 10 = (q : Int) := by rw [← hqq]; exact (Int.ofNat_tdiv y 10).symm
        have r3 : IntKind.u8.wrap (48 + (t : Int)) = ((48 + t : Nat) : Int) := by
          have := Me.wrap8 (n := 48 + t) (by unfold Me.U8; omega)
          simpa using this
        rw [ht] at HP
        rw [hqq] at HQ
        have g1 : (0 : Int) < (j : Int) := by omega
        have g2 : (j : Int) < 6 := by omega
        have g3 : (t : Int) < 10 := by omega
        have g4 : (0 : Int) ≤ (t : Int) := by omega
        have g5 : (q : Int) ≤ 99999 := by omega
        have g6 : (0 : Int) ≤ (q : Int) := by omega
        clear hz hb hx hq hy hd ht hqq hlen Z1 Z2 B1 B2
        go_wp2
        go_roundw
        case rel => exact ⟨j - 1, by omega, by go_num, by rw [HQ.out], HP.out, HB.out.setCell (p := ⟨w.heap.size, j, none⟩) (Nat.le_refl _) _⟩
        case measure => simp [intOf]; omega
      · obtain rfl : j = 0 := by omega
        have hcv := conv_rd wr (w.heap.size + 1) (some ⟨w.heap.size, 0, none⟩) (rowN K 0) 6 (hz.rd (rowN_lt K 0)) (fun e => by cases e)
        rw [show (rowN K 0).length = 6 from rfl] at hcv
        obtain ⟨y, hy⟩ : ∃ y, K / 10 ^ (5 - 0) = y := ⟨_, rfl⟩
        rw [hy]
        rw [HSS.out] at hcv
        clear hz hb hy Z1 Z2 B1 B2
        go_wp2
        go_ret
        exact ⟨rfl, HB.out⟩
  · have HE : Hid (nameI k = []) := if_neg h
    rw [decide_eq_false h] at HN
    rw [HE.out]
    clear h HE
    go_enter Tryz.func7, Tryz.ntmps7
    go_wp2_with (go_at_call 28; refine (HN.out _).mono ?_; rintro e w' ⟨rfl, rfl⟩)
    go_ret
    exact ⟨rfl, Below.refl _ _⟩
theorem Name_seg {k : Nat} (hk : isN k) (w : World) : Calls Tryz.prog 7 #[.int .i64 (k : Int)] w fun e w' => e = .returned (.string ⟨(nameW k).toArray⟩) ∧ Hid (Below w.heap.size w w') := by
  have := Name_any (k : Int) w
  rw [nameI_nat hk] at this
  exact this

/-! ### The number of a segment's file -/
theorem digit_dg (k i : Nat) : Lib.digitVal (dg k i) = some (k / 10 ^ i % 10) := by
  unfold Lib.digitVal
  have h := dg_nat k i
  have h9 : k / 10 ^ i % 10 < 10 := Nat.mod_lt _ (by decide)
  rw [if_pos (by omega), h]
  congr 1
  omega
theorem dg_ne (k i : Nat) {b : UInt8} (hb : b.toNat < 48) : (dg k i == b) = false := by
  have h := dg_nat k i
  refine beq_eq_false_iff_ne.2 fun e => ?_
  rw [e] at h
  omega
theorem atoi_digits {k : Nat} (h : k ≤ 99999) : Lib.atoi [dg k 4, dg k 3, dg k 2, dg k 1, dg k 0] = some (k : Int) := by
  simp only [Lib.atoi, dg_ne k 4 (b := 45) (by decide), dg_ne k 4 (b := 43) (by decide), Bool.false_eq_true, if_false, Lib.decNat, List.isEmpty_cons, Lib.decFrom, digit_dg, Option.map_some, Nat.reducePow, Nat.div_one]
  congr 1
  omega
theorem trim_name (k : Nat) : Lib.trimPrefix (nameW k) [119] = [dg k 4, dg k 3, dg k 2, dg k 1, dg k 0] := by
  simp [Lib.trimPrefix, Lib.hasPrefix, nameW]
set_option maxHeartbeats 1000000 in
theorem number_any {k : Nat} (hk : isN k) (w : World) : Calls Tryz.prog 57 #[.string ⟨(nameW k).toArray⟩] w fun e w' => e = .returned (.int .i64 (k : Int)) ∧ Hid (Below w.heap.size w w') := by
  have HT : Hid (∀ W, Calls Tryz.prog 71 #[.string ⟨(nameW k).toArray⟩, .string ⟨#[119]⟩] W fun e w' => e = .returned (.string ⟨[dg k 4, dg k 3, dg k 2, dg k 1, dg k 0].toArray⟩) ∧ W = w') := fun W => by
    have := Tryz.TrimP ⟨(nameW k).toArray⟩ ⟨#[119]⟩ W
    rw [show ((⟨(nameW k).toArray⟩ : ByteArray).data.toList) = nameW k from rfl, show ((⟨#[119]⟩ : ByteArray).data.toList) = [119] from rfl, trim_name] at this
    exact this.mono fun e w' ⟨h1, h2⟩ => ⟨h1, h2.symm⟩
  have HA : Hid (∀ W, Calls Tryz.prog 70 #[.string ⟨[dg k 4, dg k 3, dg k 2, dg k 1, dg k 0].toArray⟩] W fun e w' => e = .returned (.tuple #[.int .i64 (k : Int), .nilIface]) ∧ Hid (Below W.heap.size W w')) := fun W => by
    refine (Tryz.AtoiN ⟨[dg k 4, dg k 3, dg k 2, dg k 1, dg k 0].toArray⟩ (k : Int) (show 5 ≤ 18 by omega) (atoi_digits hk.2) W).mono ?_
    rintro e w' ⟨h1, t, rfl⟩
    exact ⟨h1, Go.Joins.below_bytesWorld W.heap.size W _ _ (Nat.le_refl _)⟩
  have HN := Lib.hid (fun W => Name_seg hk W)
  obtain ⟨n1, hn1⟩ : ∃ n1, (⟨(nameW k).toArray⟩ : ByteArray) = n1 := ⟨_, rfl⟩
  obtain ⟨n2, hn2⟩ : ∃ n2, (⟨[dg k 4, dg k 3, dg k 2, dg k 1, dg k 0].toArray⟩ : ByteArray) = n2 := ⟨_, rfl⟩
  rw [hn1] at HT HN ⊢
  rw [hn2] at HT HA
  clear hn1 hn2 hk
  go_enter Tryz.func57, Tryz.ntmps57
  go_wp2_with (first
    | (go_at_call 71; refine (HT.out _).mono ?_; rintro e w' ⟨rfl, rfl⟩)
    | (go_at_call 70; refine (HA.out _).mono ?_; rintro e w1 ⟨rfl, hb1⟩)
    | (go_at_call 7; refine (HN.out _).mono ?_; rintro e w2 ⟨rfl, hb2⟩))
  go_ret
  exact ⟨rfl, hb1.out.trans (hb2.out.mono hb1.out.size)⟩
end Go.Proofs.YtbacgljeadalbaaGreatDoor.Wl
/- The reference's Name; the walk of the law WalNames (behind its own question). -/
namespace Go.Proofs.YtbacgljeadalbaaGreatDoor.Wl
open Go.RowKit
open Go.Proofs.YtbacgljeadalbaaGreatDoor.Me Go.Proofs.YtbacgljeadalbaaGreatDoor.Hd Go.Proofs.YtbacgljeadalbaaGreatDoor.Dk
set_option linter.unusedVariables false
set_option linter.unusedSimpArgs false

/-- The name up to the digit j. -/
def pfx (k j : Nat) : Nm := (nameW k).take (6 - j)
theorem pfx_step (k : Nat) {j : Nat} (h : 1 ≤ j) (h5 : j ≤ 5) : pfx k j ++ [dg k (j - 1)] = pfx k (j - 1) := by
  obtain rfl | rfl | rfl | rfl | rfl : j = 1 ∨ j = 2 ∨ j = 3 ∨ j = 4 ∨ j = 5 := by omega
  all_goals rfl
theorem pfx_len (k j : Nat) : (pfx k j).length ≤ 6 := by
  unfold pfx
  rw [List.length_take]
  have := nameW_len k
  omega
/-- What p is. -/
def pw (j : Nat) : Nat := if j = 0 then 0 else 10 ^ (j - 1)
theorem pw_step {j : Nat} (h : 1 ≤ j) (h5 : j ≤ 5) : pw j / 10 = pw (j - 1) ∧ 0 < pw j ∧ pw j ≤ 10000 ∧ pw j = 10 ^ (j - 1) := by
  obtain rfl | rfl | rfl | rfl | rfl : j = 1 ∨ j = 2 ∨ j = 3 ∨ j = 4 ∨ j = 5 := by omega
  all_goals decide
theorem one_digit {t : Nat} (h : t < 10) : (⟨#[48, 49, 50, 51, 52, 53, 54, 55, 56, 57]⟩ : ByteArray).extract t (t + 1) = ⟨[UInt8.ofNat (48 + t)].toArray⟩ := by
  have : t = 0 ∨ t = 1 ∨ t = 2 ∨ t = 3 ∨ t = 4 ∨ t = 5 ∨ t = 6 ∨ t = 7 ∨ t = 8 ∨ t = 9 := by omega
  rcases this with rfl | rfl | rfl | rfl | rfl | rfl | rfl | rfl | rfl | rfl
  all_goals decide
set_option maxRecDepth 100000 in
set_option maxHeartbeats 1000000 in
theorem RName_any (k : Int) (w : World) : Calls Tryz.prog 8 #[.int .i64 k] w fun e w' => e = .returned (nmV (nameI k)) ∧ w = w' := by
  by_cases h : 1 ≤ k ∧ k ≤ 99999
  · have HE : Hid (nameI k = nameW k.toNat) := if_pos h
    rw [HE.out]
    obtain ⟨K, hK⟩ : ∃ K : Nat, k = (K : Int) := ⟨k.toNat, by omega⟩
    subst hK
    rw [Int.toNat_natCast]
    have hK9 : K ≤ 99999 := by omega
    have g1 : ¬ (K : Int) < 1 := by omega
    have g2 : ¬ (99999 : Int) < (K : Int) := by omega
    show Calls Tryz.prog 8 #[.int .i64 (K : Int)] w fun e w' => e = .returned (.string ⟨(nameW K).toArray⟩) ∧ _
    obtain ⟨S, hS⟩ : ∃ S, (⟨(nameW K).toArray⟩ : ByteArray) = S := ⟨_, rfl⟩
    have HS := Lib.hid hS
    rw [hS]
    clear h HE hS
    go_enter Tryz.func8, Tryz.ntmps8
    go_wp2
    go_loopw [4, 5, 6] (fun o p _ wr => ∃ j : Nat, j ≤ 5 ∧ p = .int .i64 ((pw j : Nat) : Int) ∧ o = .string ⟨(pfx K j).toArray⟩ ∧ w = wr) (fun _ p _ _ => (intOf p).toNat)
    case atStart => exact ⟨5, Nat.le_refl _, rfl, rfl, rfl⟩
    case round =>
      obtain ⟨j, hj, rfl, rfl, rfl⟩ := hrel
      by_cases hlt : 0 < j
      · obtain ⟨s1, s2, s3, s4⟩ := pw_step hlt hj
        have hstep := pfx_step K hlt hj
        have hdg : dg K (j - 1) = UInt8.ofNat (48 + K / pw j % 10) := by rw [s4]; rfl
        obtain ⟨P, hP⟩ : ∃ P, pw j = P := ⟨_, rfl⟩
        rw [hP] at s1 s2 s3 hdg ⊢
        obtain ⟨a, ha⟩ : ∃ a, K / P = a := ⟨_, rfl⟩
        have ha9 : a ≤ 99999 := by rw [← ha]; exact Nat.le_trans (Nat.div_le_self _ _) hK9
        have r1 : ((K : Int)).tdiv (P : Int) = (a : Int) := by rw [← ha]; exact (Int.ofNat_tdiv K P).symm
        rw [ha] at hdg
        obtain ⟨t, ht⟩ : ∃ t, a % 10 = t := ⟨_, rfl⟩
        have ht9 : t < 10 := by omega
        have r2 : ((a : Int)).tmod 10 = (t : Int) := by rw [← ht]; exact (Int.ofNat_tmod a 10).symm
        obtain ⟨q, hq⟩ : ∃ q, P / 10 = q := ⟨_, rfl⟩
        have r3 : ((P : Int)).tdiv 10 = (q : Int) := by rw [← hq]; exact (Int.ofNat_tdiv P 10).symm
        have hq9 : q ≤ 10000 := by omega
        rw [hq] at s1
        rw [ht] at hdg
        have r4 := one_digit ht9
        rw [← hdg] at r4
        have hlen := pfx_len K j
        have r5 : (⟨(pfx K j).toArray⟩ : ByteArray) ++ ⟨[dg K (j - 1)].toArray⟩ = ⟨(pfx K (j - 1)).toArray⟩ := by
          rw [← hstep, ByteArray.mk_append_mk]
        have r6 : ¬ 9223372036854775807 < (⟨(pfx K j).toArray⟩ : ByteArray).size + (⟨[dg K (j - 1)].toArray⟩ : ByteArray).size := by
          simp only [ByteArray.size, List.size_toArray, List.length_cons, List.length_nil]
          omega
        obtain ⟨S1, hS1⟩ : ∃ S1, (⟨(pfx K j).toArray⟩ : ByteArray) = S1 := ⟨_, rfl⟩
        obtain ⟨S2, hS2⟩ : ∃ S2, (⟨[dg K (j - 1)].toArray⟩ : ByteArray) = S2 := ⟨_, rfl⟩
        obtain ⟨S3, hS3⟩ : ∃ S3, (⟨(pfx K (j - 1)).toArray⟩ : ByteArray) = S3 := ⟨_, rfl⟩
        rw [hS1] at r5 r6 ⊢
        rw [hS2] at r4 r5 r6
        rw [hS3] at r5
        have HS1 := Lib.hid s1
        have HS3 := Lib.hid hS3
        have g3 : (0 : Int) < (P : Int) := by omega
        have g4 : ¬ (P : Int) = 0 := by omega
        have g5 : (0 : Int) ≤ (t : Int) := by omega
        have g6 : (t : Int) < 10 := by omega
        have g7 : (t : Int) + 1 ≤ 10 := by omega
        have g8 : (a : Int) ≤ 99999 := by omega
        have g9 : (0 : Int) ≤ (a : Int) := by omega
        have g10 : (q : Int) ≤ 10000 := by omega
        have g11 : (0 : Int) ≤ (q : Int) := by omega
        have g12 : ((t : Int) + 1).toNat = t + 1 := by omega
        have HM : Hid (q < P) := by show _ < _; omega
        have r7 : ∀ W : World, (Instr.slice 9 (.string ⟨#[48, 49, 50, 51, 52, 53, 54, 55, 56, 57]⟩) (some (.int .i64 (t : Int))) (some (.int .i64 ((t : Int) + 1))) none).run Tryz.prog W = .ok (.string S2) W := fun W => by
          rw [run_slice_string_if (h := Tryz.underlying9), if_pos ⟨by omega, by show (t : Int) + 1 ≤ ((10 : Nat) : Int); omega⟩, if_pos ⟨by omega, by omega⟩, g12, Int.toNat_natCast, r4]
        clear hP s1 s4 hstep hdg ha ht hq hlen hS1 hS2 hS3 HS r4 g12
        go_wp2
        go_roundw
        case rel => exact ⟨j - 1, by omega, by rw [HS1.out], by rw [HS3.out], by first | trivial | rfl⟩
        case measure => have := HM.out; simp [intOf]; omega
      · obtain rfl : j = 0 := by omega
        have hz : (⟨(pfx K 0).toArray⟩ : ByteArray) = S := HS.out
        rw [hz]
        clear hz
        go_wp2
        go_ret
        exact ⟨rfl, rfl⟩
  · have HE : Hid (nameI k = []) := if_neg h
    rw [HE.out]
    show Calls Tryz.prog 8 #[.int .i64 k] w fun e w' => e = .returned (.string ⟨#[]⟩) ∧ _
    by_cases h1 : k < 1
    · clear h HE
      go_enter Tryz.func8, Tryz.ntmps8
      go_wp2
      go_ret
      exact ⟨rfl, rfl⟩
    · have h2 : (99999 : Int) < k := by omega
      clear h HE
      go_enter Tryz.func8, Tryz.ntmps8
      go_wp2
      go_ret
      exact ⟨rfl, rfl⟩
end Go.Proofs.YtbacgljeadalbaaGreatDoor.Wl
