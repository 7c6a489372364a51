/-
  Contracts of the smallest functions: magnitudes and signs. No conditions.
-/
import Derived.Test.YtgfahenhobnjpaaDoorRows
import Derived.WalkKit
import Derived.WalkSpells
import Derived.WalkLawsBesides
import Derived.Lib.Hide
import Derived.IntWalk
import Derived.BigQuiet
import Derived.Deep.QuietTactic
namespace Go.Proofs.YtgfahenhobnjpaaDoor
open Go.RowKit
/-- The call returns this value and leaves the world as it was. -/
def Is (v : Value) (w : World) (e : Ending) (w' : World) : Prop := e = .returned v ∧ w = w'
theorem wrap_u64_neg (n : Int) (h : n < 0) (h1 : -9223372036854775808 ≤ n) : IntKind.u64.wrap n = n + 18446744073709551616 := by
  rw [IntKind.wrap_u64]; omega
theorem ret_is {k : IntKind} {a b : Int} {w : World} (h : a = b) : Is (.int k b) w (.returned (.int k a)) w := ⟨by rw [h], rfl⟩
theorem magnitude_any (n : Int) (w : World) (h1 : -9223372036854775808 ≤ n) (h2 : n ≤ 9223372036854775807) :
    Calls Tryd.prog 19 #[.int .i64 n] w (Is (.int .u64 (n.natAbs : Nat)) w) := by
  go_enter Tryd.func19, Tryd.ntmps19
  go_wp2_with fail
  · go_ret
    exact ret_is (by simp only [IntKind.wrap_u64]; omega)
  · go_ret
    exact ret_is (by omega)
theorem refMagnitude_any (n : Int) (w : World) (h1 : -9223372036854775808 ≤ n) (h2 : n ≤ 9223372036854775807) :
    Calls Tryd.prog 22 #[.int .i64 n] w (Is (.int .u64 (n.natAbs : Nat)) w) := by
  go_enter Tryd.func22, Tryd.ntmps22
  go_wp2_with fail
  · go_ret
    exact ret_is (by simp only [IntKind.wrap_u64]; omega)
  · go_ret
    exact ret_is (by omega)
/-- A magnitude with a sign. -/
def sgn (b : Bool) (k : Nat) : Int := if b = true then -(k : Int) else k
theorem signed_any (b : Bool) (k : Nat) (w : World) (h : k ≤ 140737488355328) :
    Calls Tryd.prog 14 #[.bool b, .int .u64 (k : Int)] w (Is (.int .i64 (sgn b k)) w) := by
  cases b
  all_goals
    go_enter Tryd.func14, Tryd.ntmps14
    go_wp2_with fail
    go_ret
    exact ret_is (by first | rfl | (simp [sgn]))
theorem refSigned_any (b : Bool) (k : Nat) (w : World) (h : k ≤ 9223372036854775807) :
    Calls Tryd.prog 18 #[.bool b, .int .u64 (k : Int)] w (Is (.int .i64 (sgn b (min k 140737488355328))) w) := by
  by_cases hk : 140737488355328 < k
  · have e : min k 140737488355328 = 140737488355328 := by omega
    rw [e]; clear e
    cases b
    all_goals
      go_enter Tryd.func18, Tryd.ntmps18
      go_wp2_with fail
      go_ret
      exact ret_is (by first | rfl | (simp [sgn]))
  · have e : min k 140737488355328 = k := by omega
    rw [e]; clear e
    cases b
    all_goals
      go_enter Tryd.func18, Tryd.ntmps18
      go_wp2_with fail
      go_ret
      exact ret_is (by first | rfl | (simp [sgn]))
/-- The clamp. -/
def clampI (n l h : Int) : Int := if n < l then l else if h < n then h else n
end Go.Proofs.YtgfahenhobnjpaaDoor
