/-
  Contract of the developers' kindOf. No conditions.
-/
import Derived.Test.YtgifienjfaclmaaDoorLd
import Derived.Test.YtgifienjfaclmaaDoorNa
namespace Go.Proofs.YtgifienjfaclmaaDoor
open Go.RowKit
set_option maxRecDepth 100000 in
set_option maxHeartbeats 2000000 in
theorem kindOf_any (n : Nat) (hn : n < 256) (w : World) : Calls Tryd.prog 44 #[.int .i32 (n : Int)] w (Is (.int .i64 (kd n : Int)) w) := by
  go_enter Tryd.func44, Tryd.ntmps44
  go_wp2_with fail
  all_goals
    go_ret
    refine ret_is ?_
    simp only [beq_iff_eq, beq_eq_false_iff_ne, ne_eq] at *
    unfold kd
    repeat' split
    all_goals omega
end Go.Proofs.YtgifienjfaclmaaDoor
