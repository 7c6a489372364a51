/-
  The reference's scanner: Mark and Word. No conditions but Go's own bounds.
-/
import Derived.Test.YtgifienjfaclmaaDoorLv
namespace Go.Proofs.YtgifienjfaclmaaDoor
open Go.RowKit
theorem str_ne {q l : List UInt8} (h : q ≠ l) : ((bs q).toList == (bs l).toList) = false := by rw [toList_bs, toList_bs]; simpa using h
theorem str_eq (l : List UInt8) : ((bs l).toList == (bs l).toList) = true := by simp
/-- Does the token stand for Mark of s? -/
def isMark (t : Tk) (s : List UInt8) : Bool := decide (t.kind = 4) && t.text == s
/-- Does the token stand for Word of s? -/
def isWord (t : Tk) (s : List UInt8) : Bool := decide (t.kind = 1) && t.text == s
end Go.Proofs.YtgifienjfaclmaaDoor
