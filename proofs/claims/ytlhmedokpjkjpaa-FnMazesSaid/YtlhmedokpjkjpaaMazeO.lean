/- The library's count of the places that are 1, for numbers below 2 to the power of 24. -/
import Derived.Test.YtlhmedokpjkjpaaGridC
import Derived.Test.YtlhmedokpjkjpaaBitP
import Derived.Outline
namespace Go.Proofs.Ytlhmedokpjkjpaa.mazeO
open Go.ChangeShapes Go.WideShapes Go.ChangeAt Go.RowKit
open bitP
set_option linter.unusedVariables false

theorem ones64 (n : Nat) (W : World) (h : n < 16777216) :
    Calls Try.prog 63 #[.int .u64 n] W fun e w' => e = .returned (.int .i64 (pcN n 24 : Nat)) ∧ W = w' := by
  obtain ⟨x, y, z, hx, hy, hz, bx, by', bz, he⟩ := ones h
  have K1 : IntKind.u64.wrap (bits .and .u64 ((n : Int) / 2) 6148914691236517205 + bits .and .u64 (n : Int) 6148914691236517205) = (x : Int) := by
    rw [show ((n : Int) / 2) = ((n / 2 : Nat) : Int) from by omega, show (6148914691236517205 : Int) = ((6148914691236517205 : Nat) : Int) from rfl, u64_and_nat _ _ (by omega) (by decide), u64_and_nat _ _ (by omega) (by decide), IntWalk.u64_in _ (by omega)]
    omega
  have K2 : IntKind.u64.wrap (bits .and .u64 ((x : Int) / 4) 3689348814741910323 + bits .and .u64 (x : Int) 3689348814741910323) = (y : Int) := by
    rw [show ((x : Int) / 4) = ((x / 4 : Nat) : Int) from by omega, show (3689348814741910323 : Int) = ((3689348814741910323 : Nat) : Int) from rfl, u64_and_nat _ _ (by omega) (by decide), u64_and_nat _ _ (by omega) (by decide), IntWalk.u64_in _ (by omega)]
    omega
  have K3 : bits .and .u64 (IntKind.u64.wrap ((y : Int) / 16 + (y : Int))) 1085102592571150095 = (z : Int) := by
    rw [IntWalk.u64_in _ (by omega), show ((y : Int) / 16 + (y : Int)) = ((y / 16 + y : Nat) : Int) from by omega, show (1085102592571150095 : Int) = ((1085102592571150095 : Nat) : Int) from rfl, u64_and_nat _ _ (by omega) (by decide)]
    omega
  have K4 : IntKind.u64.wrap ((z : Int) + (z : Int) / 256) = (((z + z / 256 : Nat)) : Int) := by rw [IntWalk.u64_in _ (by omega)]; omega
  have hv : z + z / 256 < 33554432 := by omega
  have HV : (z + z / 256 + (z + z / 256) / 65536) % 128 = pcN n 24 := he
  generalize z + z / 256 = v at K4 HV hv
  have K5 : IntKind.u64.wrap ((v : Int) + (v : Int) / 65536) = (((v + v / 65536 : Nat)) : Int) := by rw [IntWalk.u64_in _ (by omega)]; omega
  have hu : v + v / 65536 < 67108864 := by omega
  generalize v + v / 65536 = u at K5 HV hu
  have K6 : IntKind.u64.wrap ((u : Int) + (u : Int) / 4294967296) = (u : Int) := by rw [IntWalk.u64_in _ (by omega)]; omega
  have K7 : bits .and .i64 (IntKind.i64.wrap (u : Int)) 127 = ((pcN n 24 : Nat) : Int) := by
    rw [IntWalk.i64_in _ (by omega), show (127 : Int) = ((127 : Nat) : Int) from rfl, and_i64 _ _ (by omega) (by decide), nat_mask7, HV]
  clear HV hx hy hz he hv hu bx by' bz
  go_enter Try.func63, Try.ntmps63
  go_wp2_with fail
  go_ret
  refine ⟨?_, rfl⟩
  have K8 := K7
  rw [IntWalk.i64_left] at K8
  simp [Array.getD, *]

theorem ones_any (n : Nat) (W : World) (h : n < 16777216) :
    Calls Try.prog 44 #[.int .u64 n] W fun e w' => e = .returned (.int .i64 (pcN n 24 : Nat)) ∧ W = w' := by
  go_enter Try.func44, Try.ntmps44
  go_wp2_with fail
  refine (ones64 n _ h).mono ?_
  rintro e w1 ⟨rfl, rfl⟩
  go_wp2_with fail
  go_ret
  exact ⟨rfl, rfl⟩
end Go.Proofs.Ytlhmedokpjkjpaa.mazeO
