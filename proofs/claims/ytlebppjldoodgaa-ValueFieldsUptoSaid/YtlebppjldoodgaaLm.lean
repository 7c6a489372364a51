/-
  What a scan of a text gives, by lists of bytes. No conditions.
-/
namespace Go.Proofs.Ytlebppjldoodgaa
def isL (c : UInt8) : Bool := (decide (97 ≤ c.toNat) && decide (c.toNat ≤ 122)) || (decide (65 ≤ c.toNat) && decide (c.toNat ≤ 90))
def isD (c : UInt8) : Bool := decide (48 ≤ c.toNat) && decide (c.toNat ≤ 57)
def isW (c : UInt8) : Bool := isL c || isD c || c == 95
def marks : List UInt8 := [123, 125, 40, 41, 91, 93, 58, 59, 44, 61, 46, 63, 33, 38, 124, 64]
def isM (c : UInt8) : Bool := marks.contains c
def isS (c : UInt8) : Bool := c == 32 || c == 9 || c == 10
/-- What is left behind white space and remarks; rm: inside a remark. -/
def sk : Bool → List UInt8 → List UInt8
  | _, [] => []
  | rm, c :: r => if ((rm && c != 10) || c == 35) || isS c then sk ((rm && c != 10) || c == 35) r else c :: r
/-- A token. -/
structure Tk where
  kind : Nat
  text : List UInt8
  num : Int
  at_ : Nat
deriving DecidableEq
def dval (l : List UInt8) : Nat := l.foldl (fun n c => 10 * n + (c.toNat - 48)) 0
/-- The number of digits behind an optional minus sign; 1: out of range, 2: no number. -/
def numOf (neg : Bool) (ds : List UInt8) : Except Nat Int :=
  if ds.length = 0 ∨ (1 < ds.length ∧ ds.head? = some 48) ∨ (neg = true ∧ ds.head? = some 48) then .error 2
  else if (if neg then 9223372036854775808 else 9223372036854775807) < dval ds then .error 1
  else .ok (if neg then -(dval ds : Int) else (dval ds : Int))
/-- A string's content, and the place behind it; i: the place, out: the content so far. -/
def qs (l : List UInt8) (i : Nat) (out : List UInt8) : Except Nat (List UInt8 × Nat) :=
  match l with
  | [] => .error i
  | c :: r =>
    if c = 34 then .ok (out, i + 1)
    else if c.toNat < 32 ∨ 126 < c.toNat then .error i
    else if c = 92 then
      match r with
      | [] => .error i
      | d :: r => if d = 34 ∨ d = 92 then qs r (i + 2) (out ++ [d]) else .error i
    else qs r (i + 1) (out ++ [c])
termination_by l.length
decreasing_by all_goals (simp only [List.length_cons]; omega)
/-- The token that begins with c, and its length; an error with its place. -/
def tok (c : UInt8) (r : List UInt8) : Except (Nat × Nat) (Nat × List UInt8 × Int × Nat) :=
  if isL c then
    if 16 < ((c :: r).takeWhile isW).length then .error (3, 0)
    else if ((c :: r).drop ((c :: r).takeWhile isW).length).head? = some 45 then .error (2, ((c :: r).takeWhile isW).length)
    else .ok (1, (c :: r).takeWhile isW, 0, ((c :: r).takeWhile isW).length)
  else if isD c || c == 45 then
    match numOf (c == 45) ((if c == 45 then r else c :: r).takeWhile isD) with
    | .error e => .error (if e = 1 then 4 else 2, 0)
    | .ok n =>
      if ((c :: r).drop ((c == 45).toNat + ((if c == 45 then r else c :: r).takeWhile isD).length)).head?.any (fun d => isW d || d == 45) then
        .error (2, (c == 45).toNat + ((if c == 45 then r else c :: r).takeWhile isD).length)
      else .ok (2, [], n, (c == 45).toNat + ((if c == 45 then r else c :: r).takeWhile isD).length)
  else if c = 34 then
    match qs r 1 [] with
    | .error i => .error (2, i)
    | .ok (t, k) => if 200 < t.length then .error (3, 0) else .ok (3, t, 0, k)
  else if isM c then .ok (4, [c], 0, 1)
  else .error (2, 0)
theorem sk_length (rm : Bool) (l : List UInt8) : (sk rm l).length ≤ l.length := by
  induction l generalizing rm with
  | nil => simp [sk]
  | cons c r ih =>
    unfold sk
    split
    · have := ih ((rm && c != 10) || c == 35)
      simp only [List.length_cons]
      omega
    · exact Nat.le_refl _
/-- The tokens of what stands at place p, behind white space. -/
def sc (l : List UInt8) (p : Nat) : Except (Nat × Nat) (List Tk) :=
  match l with
  | [] => .ok [⟨0, [], 0, p⟩]
  | c :: r =>
    match tok c r with
    | .error (e, o) => .error (e, p + o)
    | .ok (kd, t, n, k) =>
      match sc (sk false (r.drop (k - 1))) (p + (r.length + 1 - (sk false (r.drop (k - 1))).length)) with
      | .error x => .error x
      | .ok ts => .ok (⟨kd, t, n, p⟩ :: ts)
termination_by l.length
decreasing_by
  have := sk_length false (r.drop (k - 1))
  simp only [List.length_drop, List.length_cons] at *
  omega
/-- The tokens of a text. -/
def scan (l : List UInt8) : Except (Nat × Nat) (List Tk) :=
  if 4000 < l.length then .error (3, 0) else sc (sk false l) (l.length - (sk false l).length)
/-- A name. -/
def isN (l : List UInt8) : Bool := decide (1 ≤ l.length) && decide (l.length ≤ 16) && (l.head?.any isL) && l.all isW
/-- A token that a scan can give, other than the end. -/
def okT (t : Tk) : Bool :=
  if t.kind = 1 then isN t.text && t.num == 0
  else if t.kind = 2 then t.text == []
  else if t.kind = 3 then (t.text.all fun c => decide (32 ≤ c.toNat) && decide (c.toNat ≤ 126)) && decide (t.text.length ≤ 200) && t.num == 0
  else if t.kind = 4 then (match t.text with | [c] => isM c | _ => false) && t.num == 0
  else false
/-- Digits. -/
def dg (n : Nat) : List UInt8 := if n < 10 then [UInt8.ofNat (48 + n)] else dg (n / 10) ++ [UInt8.ofNat (48 + n % 10)]
termination_by n
decreasing_by omega
def dec (n : Int) : List UInt8 := if n < 0 then 45 :: dg n.natAbs else dg n.natAbs
def esc : List UInt8 → List UInt8
  | [] => []
  | c :: r => if c = 34 ∨ c = 92 then 92 :: c :: esc r else c :: esc r
def quo (l : List UInt8) : List UInt8 := 34 :: (esc l ++ [34])
/-- A token as printed. -/
def pr (t : Tk) : List UInt8 := if t.kind = 2 then dec t.num else if t.kind = 3 then quo t.text else t.text
/-- Tokens as printed, behind s. -/
def prs (s : List UInt8) : List Tk → List UInt8
  | [] => s
  | t :: ts => if okT t then prs ((if s = [] then [] else s ++ [32]) ++ pr t) ts else prs s ts
end Go.Proofs.Ytlebppjldoodgaa
