/- The tables that the program's package-level variables hold. By program. -/
import Derived.Test.YtngpoamjhngcgaaGreatDoorPmEvL
namespace Go.Proofs.YtngpoamjhngcgaaGreatDoor.Ev
open Go
def tab0 : List Nat := [0, 1, 28, 2, 29, 14, 24, 3, 30, 22, 20, 15, 25, 17, 4, 8, 31, 27, 13, 23, 21, 19, 16, 7, 26, 12, 18, 6, 11, 5, 10, 9]
noncomputable def vals0 : List Value := tab0.map fun n => Value.int .u8 (Int.ofNat n)
def tab1 : List Nat := [0, 1, 56, 2, 57, 49, 28, 3, 61, 58, 42, 50, 38, 29, 17, 4, 62, 47, 59, 36, 45, 43, 51, 22, 53, 39, 33, 30, 24, 18, 12, 5, 63, 55, 48, 27, 60, 41, 37, 16, 46, 35, 44, 21, 52, 32, 23, 11, 54, 26, 40, 15, 34, 20, 31, 10, 25, 14, 19, 9, 13, 8, 7, 6]
noncomputable def vals1 : List Value := tab1.map fun n => Value.int .u8 (Int.ofNat n)
def tab3 : List Nat := [1, 10, 100, 1000, 10000, 100000, 1000000, 10000000, 100000000, 1000000000, 10000000000, 100000000000, 1000000000000, 10000000000000, 100000000000000, 1000000000000000, 10000000000000000, 100000000000000000, 1000000000000000000, 10000000000000000000]
noncomputable def vals3 : List Value := tab3.map fun n => Value.int .u64 (Int.ofNat n)
noncomputable def tabs : List (Nat × List Value) := [(0, vals0), (1, vals1), (3, vals3)]
end Go.Proofs.YtngpoamjhngcgaaGreatDoor.Ev

