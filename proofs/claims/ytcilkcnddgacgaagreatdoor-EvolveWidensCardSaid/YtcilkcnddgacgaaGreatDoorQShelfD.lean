import Derived.Test.YtcilkcnddgacgaaGreatDoorShelf
/-
  Nothing of its own. No conditions.
-/

