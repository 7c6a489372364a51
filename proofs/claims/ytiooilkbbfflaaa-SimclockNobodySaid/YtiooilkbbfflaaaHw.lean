import Derived.Test.YtiooilkbbfflaaaHv
/-
  The law of clocks that are nil. No conditions.
-/
namespace Go.Proofs.Ytiooilkbbfflaaa
open Go.RowKit Go.Sort Go.Lib Go.Shelf
set_option maxRecDepth 100000 in
set_option maxHeartbeats 4000000 in
theorem nobody_law (a b : Int) (w : World) : Calls Try.prog 8 #[.int .i64 a, .int .i64 b] w (Ib (.bool true) w) := by
  have hb := Below.refl w.heap.size w
  go_enter Try.func8, Try.ntmps8
  go_wp2_with (first
    | (go_at_call 15; refine (add_nil _ _).mono ?_; rintro e w9 ⟨rfl, hb9⟩; have hb := Below.next hb hb9; clear hb9)
    | (go_at_call 18; refine (every_nil _ _ _).mono ?_; rintro e w9 ⟨rfl, hb9⟩; have hb := Below.next hb hb9; clear hb9)
    | (go_at_call 17; refine (advance_nil _ _).mono ?_; rintro e w9 ⟨rfl, hb9⟩; have hb := Below.next hb hb9; clear hb9)
    | (go_at_call 12; refine (next_nil _).mono ?_; rintro e w9 ⟨rfl, hb9⟩; have hb := Below.next hb hb9; clear hb9)
    | (go_at_call 16; refine (cancel_nil _ _).mono ?_; rintro e w9 ⟨rfl, hb9⟩; have hb := Below.next hb hb9; clear hb9)
    | (go_at_call 14; refine (now_nil _).mono ?_; rintro e w9 ⟨rfl, hb9⟩; have hb := Below.next hb hb9; clear hb9)
    | (go_at_call 21; refine (pending_nil _).mono ?_; rintro e w9 ⟨rfl, hb9⟩; have hb := Below.next hb hb9; clear hb9)
    | (go_at_call 9; refine (awake_any _).mono ?_; rintro e w9 ⟨rfl, hb9⟩; have hb := Below.next hb hb9; clear hb9))
  go_ret
  exact ⟨rfl, hb⟩
end Go.Proofs.Ytiooilkbbfflaaa
