import Derived.Test.YthfodpbecddheaaGreatDoorShelf
/-
  Nothing of its own. No conditions.
-/

