/- The shelf's contracts at this program, in plain words (written by program: laye.py). -/
import Derived.Shelf.Lays2
import Derived.Shelf.Slices.SearchI
import Derived.Shelf.Slices.Empties
import Derived.Test.YtpofdimagfldnaaProg
namespace Go.Proofs
open Go.Shelf
def Try.bs__ren : Go.Shelf.Ren := ⟨fun | 25 => 96 | 31 => 111 | 32 => 112 | 37 => 120 | n => n, fun | 22 => 54 | 3 => 3 | 4 => 4 | 40 => 164 | 0 => 0 | n => n, fun | n => n⟩
theorem Try.bs_ : Go.Proofs.Lays2.n25 Try.prog Try.bs__ren := {
  mixed := by kernel_rfl
  f25 := Try.func96.trans (congrArg some (by kernel_rfl))
  f31 := Try.func111.trans (congrArg some (by kernel_rfl))
  f32 := Try.func112.trans (congrArg some (by kernel_rfl))
  f37 := Try.func120.trans (congrArg some (by kernel_rfl))
  t0 := Try.underlying0
  a0 := Try.isAgg0
  z0 := Try.sizeOf0
  v0 := Try.zeroValue0
  t3 := Try.underlying3
  a3 := Try.isAgg3
  z3 := Try.sizeOf3
  v3 := Try.zeroValue3
  t4 := Try.underlying4
  a4 := Try.isAgg4
  z4 := Try.sizeOf4
  v4 := Try.zeroValue4
  t22 := Try.underlying54
  a22 := Try.isAgg54
  z22 := Try.sizeOf54
  v22 := Try.zeroValue54
  t40 := Try.underlying164
  a40 := Try.isAgg164
  z40 := Try.sizeOf164
  v40 := Try.zeroValue164 }
open Go.RowKit in
theorem Try.Search (b off n c : Nat) (zs : List Int) (x : Int) (w : World) (hz : n ≤ zs.length) (hbig : n < 4611686018427387904) (hc : ∀ j, j < zs.length → w.cell? ⟨b, off + j, none⟩ = some (.int .i64 (zs.getD j 0))) (hs : (zs.take n).Pairwise (· ≤ ·)) :
    Calls Try.prog 96 #[.slice (some ⟨b, off, none⟩) n c, .int .i64 x] w fun e w' => e = .returned (.tuple #[.int .i64 ((zs.take n).countP (· < x) : Nat), .bool ((zs.take n).contains x)]) ∧ ∃ q, w' = w.drewN q := Any.slices_BinarySearch_int Try.bs_ b off n c zs x w hz hbig hc hs
open Go.RowKit in
theorem Try.Search0 (a : Option Addr) (c : Nat) (x : Int) (w : World) :
    Calls Try.prog 96 #[.slice a 0 c, .int .i64 x] w fun e w' => e = .returned (.tuple #[.int .i64 0, .bool false]) ∧ w' = w := Any.slices_BinarySearch_int_empty Try.bs_ a c x w
end Go.Proofs
