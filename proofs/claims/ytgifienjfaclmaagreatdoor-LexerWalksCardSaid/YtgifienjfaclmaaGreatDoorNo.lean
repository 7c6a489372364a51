/-
  Contract of the developers' kindOf. No conditions.
-/
import Derived.Test.YtgifienjfaclmaaGreatDoorLd
import Derived.Test.YtgifienjfaclmaaGreatDoorNa
namespace Go.Proofs.YtgifienjfaclmaaGreatDoor
open Go.RowKit
set_option maxRecDepth 100000 in
set_option maxHeartbeats 2000000 in
theorem kindOf_any (n : Nat) (hn : n < 256) (w : World) : Calls Tryz.prog 39 #[.int .i32 (n : Int)] w (Is (.int .i64 (kd n : Int)) w) := by
  go_enter Tryz.func39, Tryz.ntmps39
  go_wp2_with fail
  all_goals
    go_ret
    refine ret_is ?_
    simp only [beq_iff_eq, beq_eq_false_iff_ne, ne_eq] at *
    unfold kd
    repeat' split
    all_goals omega
end Go.Proofs.YtgifienjfaclmaaGreatDoor
