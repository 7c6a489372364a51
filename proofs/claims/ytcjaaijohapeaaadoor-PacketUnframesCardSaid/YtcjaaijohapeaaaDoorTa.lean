import Derived.Test.YtcjaaijohapeaaaDoorBa
/-
  Packets as data: the numbers that a kind uses, with their ranges; which packets are valid. No conditions.
-/
namespace Go.Proofs.YtcjaaijohapeaaaDoor
open Go.RowKit Go.Shelf Go.Lib
/-- A packet. -/
structure Pc where
  kind : Int
  fr : Int
  to_ : Int
  wr : Int
  rd : Int
  sq : Int
  fi : Int
  la : Int
  at_ : Int
  mis : List Int
  pay : List UInt8
/-- The number at a place. -/
def Pc.num (p : Pc) (o : Nat) : Int := match o with
  | 0 => p.kind
  | 1 => p.fr
  | 2 => p.to_
  | 3 => p.wr
  | 4 => p.rd
  | 5 => p.sq
  | 6 => p.fi
  | 7 => p.la
  | _ => p.at_
/-- A packet's cells; mv: the value of its list. -/
def Pc.cells (p : Pc) (mv : Value) : List Value := [.int .i64 p.kind, .int .i64 p.fr, .int .i64 p.to_, .int .i64 p.wr, .int .i64 p.rd, .int .i64 p.sq, .int .i64 p.fi, .int .i64 p.la, .int .i64 p.at_, mv, .string (bs p.pay)]
def Pc.val (p : Pc) (mv : Value) : Value := .agg (p.cells mv).toArray
/-- A number that a kind uses: its place, and its range. -/
structure Nr where
  off : Nat
  lo : Int
  hi : Int
def eNr (b : Nat) (x : Nr) : List Value := [.pointer (some ⟨b, x.off, none⟩), .int .i64 x.lo, .int .i64 x.hi]
theorem eNr_len (b : Nat) (x : Nr) : (eNr b x).length = 3 := rfl
theorem eNr_one (b : Nat) (x : Nr) (u : Value) (h : u ∈ eNr b x) : u.oneCell' = true := by
  simp only [eNr, List.mem_cons, List.not_mem_nil, or_false] at h
  rcases h with rfl | rfl | rfl <;> rfl
theorem infoN : (Tryd.prog.info? 82).map (fun i => (i.zero, i.size, i.bytes)) = some (some (.agg #[.pointer none, .int .i64 0, .int .i64 0]), 3, 24) := by kernel_rfl
def OwN (b B : Nat) (w : World) (v : Value) (l : List Nr) : Prop := w.ownsRow B 82 3 v l.length (tc (eNr b) l)
def lid (k : Int) : Int := if k = 5 then 0 else 1
def nrB (k : Int) : List Nr := [⟨1, 0, 7⟩, ⟨2, 0, 7⟩, ⟨3, lid k, 1073741824⟩, ⟨4, lid k, 1073741824⟩]
def nrS (k : Int) : List Nr := if k = 1 then [⟨5, 1, 1099511627776⟩] else if k = 4 then [⟨5, 0, 1⟩] else if k = 5 then [⟨5, 0, 1099511627776⟩] else []
def nrF (k : Int) : List Nr := if k = 2 ∨ k = 3 ∨ k = 4 then [⟨6, 1, 1099511627776⟩, ⟨7, 0, 1099511627776⟩] else []
/-- The numbers of a kind, in the order of the encoding. -/
def nrs (k : Int) : List Nr := nrB k ++ nrS k ++ nrF k ++ [⟨8, 0, 1099511627776⟩]
theorem wpList_pushN {w : World} {ops : Array Oper} {rest : List Oper} {o : Oper} {a : Act} {Q : Exit → Act → World → Prop} (hgd : o.guard = none) (sv xv : Operand)
    (ho : o.op = .call { callee := .builtin .append, args := #[sv, xv], argTypes := #[77, 77] }) (b B : Nat) (v : Value) (l m : List Nr) (g d : Nat) (hs : a.eval sv = v) (hx : a.eval xv = .slice (some ⟨g, 0, none⟩) m.length d)
    (hown : OwN b B w v l) (hc : Bx w g (tc (eNr b) m)) (hm : l.length ≤ 1000) (hm2 : m.length ≤ 1000) (hm3 : m ≠ []) (hB : B ≤ w.heap.size)
    (h : ∀ v' w', OwN b B w' v' (l ++ m) → w.grownBy w' v.ownBlock → (v'.ownBlock = v.ownBlock ∨ v'.ownBlock = some w.heap.size) → wpList Tryd.prog ops Q rest (a.put o.dst v') w') : wpList Tryd.prog ops Q (o :: rest) a w := by
  obtain ⟨i, hi, hz, hs5, hby⟩ := info_parts infoN
  have hml : 0 < m.length := List.length_pos_iff.2 hm3
  refine wpList_append_own_at w hgd sv xv 77 ho B 82 i _ 3 24 Tryd.underlying77 hi hz hs5 hby rfl (by omega) v l.length (tc (eNr b) l) hs hown ⟨g, 0, none⟩ m.length d (tc (eNr b) m) hx (tc_len (eNr_len b) m)
    (by intro j u hj; rw [Addr.add_lit, Nat.zero_add]; exact (hc.at_ j u hj).1) (tc_one' (eNr_one b) m) (by simp only [maxLen]; omega) (by omega) hB ?_
  intro v' w' h1 h2 _ h4
  refine h v' w' ?_ h2 h4
  unfold OwN
  rw [tc_app, List.length_append]
  exact h1
end Go.Proofs.YtcjaaijohapeaaaDoor
