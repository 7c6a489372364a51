/-
  Bytes that are appended to a slice of the call's own, and a slice of bytes as a string. No conditions beyond those that each names.
-/
import Derived.Test.YtcjaaijohapeaaaDoorLa
import Derived.Maps.AppendAt
import Derived.Laws.IdiomStrings
import Derived.OwnWalk
namespace Go.Proofs.YtcjaaijohapeaaaDoor
open Go.RowKit
/-- Bytes as cells. -/
def bcells (l : List UInt8) : List Value := l.map fun b => .int .u8 (b.toNat : Int)
/-- The slice v owns the bytes l. -/
def Ow (B : Nat) (w : World) (v : Value) (l : List UInt8) : Prop := w.ownsRow B 5 1 v l.length (bcells l)
theorem Ow.nil (B : Nat) (w : World) : Ow B w (.slice none 0 0) [] := World.ownsRow_nil _ _ _ _
theorem bcells_snoc (l : List UInt8) (b : UInt8) : bcells (l ++ [b]) = bcells l ++ [.int .u8 (b.toNat : Int)] := by simp [bcells]
theorem Ow.other {B : Nat} {w w' : World} {v : Value} {l : List UInt8} (h : Ow B w v l) (hb : Below w.heap.size w w') : Ow B w' v l := by
  unfold Ow World.ownsRow at *
  refine ⟨h.1, ?_⟩
  rcases h.2 with h1 | ⟨g, cap, cur, h1, h2, h3, h4⟩
  · exact .inl h1
  · refine .inr ⟨g, cap, cur, h1, h2, ?_, h4⟩
    rw [hb.block g (Array.getElem?_eq_some_iff.1 h3).1]
    exact h3
theorem infoB : (Tryd.prog.info? 5).map (fun i => (i.zero, i.size, i.bytes)) = some (some (.int .u8 0), 1, 1) := by kernel_rfl
theorem one (w : World) (o : Obj) : Below w.heap.size w (w.alloc o) := (Below.refl _ _).alloc (Nat.le_refl _) o
theorem wpList_push {w : World} {ops : Array Oper} {rest : List Oper} {o : Oper} {a : Act} {Q : Exit → Act → World → Prop} (hgd : o.guard = none) (s x : Operand)
    (ho : o.op = .call { callee := .builtin .append, args := #[s, x], argTypes := #[68, 68] }) (B : Nat) (v : Value) (l : List UInt8) (b : UInt8) (ad : Addr) (d : Nat) (hs : a.eval s = v) (hx : a.eval x = .slice (some ad) 1 d)
    (hown : Ow B w v l) (hc : w.cell? ad = some (.int .u8 (b.toNat : Int))) (hm : l.length + 1 ≤ 140737488355328) (hB : B ≤ w.heap.size)
    (h : ∀ v' w', Ow B w' v' (l ++ [b]) → w.grownBy w' v.ownBlock → wpList Tryd.prog ops Q rest (a.put o.dst v') w') : wpList Tryd.prog ops Q (o :: rest) a w := by
  obtain ⟨i, hi, hz, hs5, hby⟩ := info_parts infoB
  refine wpList_append_own_at w hgd s x 68 ho B 5 i _ 1 1 Tryd.underlying68 hi hz hs5 hby rfl (by omega) v l.length (bcells l) hs hown ad 1 d [.int .u8 (b.toNat : Int)] hx rfl
    (by intro j u hj
        cases j with
        | zero => simp at hj; subst hj; rw [Addr.add_zero']; exact hc
        | succ j => simp at hj) (by simp [Value.oneCell']) (by simp only [maxLen]; omega) (by omega) hB ?_
  intro v' w' h1 h2 _ _
  refine h v' w' ?_ h2
  unfold Ow
  rw [bcells_snoc, List.length_append]
  exact h1
/-- An owned slice that isn't empty, as a string. -/
theorem Ow.str {B : Nat} {w : World} {v : Value} {l : List UInt8} (h : Ow B w v l) (h0 : l ≠ []) :
    (convert 68 9 v).run Tryd.prog w = .ok (.string (bs l)) w := by
  have h1 := h
  rcases h.2 with ⟨_, h2⟩ | ⟨g, cap, cur, hv, h2, h3, h4, h5, h6, h7⟩
  · exact absurd (List.eq_nil_of_length_eq_zero h2) h0
  · subst hv
    refine run_convert_bytes_back w 68 9 5 ⟨g, 0, none⟩ cap l Tryd.underlying68 Tryd.underlying5 Tryd.underlying9 fun j hj => ?_
    have := World.ownsRow.cellAt h1 j (by omega)
    rw [show (⟨g, 0, none⟩ : Addr).add j = ⟨g, j, none⟩ by simp [Addr.add]; exact Eq.symm, this]
    simp [bcells, List.getElem?_eq_getElem hj]
/-- A slice of one byte, just built, as a string. -/
theorem str1 (w : World) (z : Nat) (hz : z < 256) :
    (convert 68 9 (.slice (some ⟨w.heap.size, 0, none⟩) 1 1)).run Tryd.prog (w.alloc (Obj.cells #[.int .u8 (z : Int)] 5)) = .ok (.string (bs [UInt8.ofNat z])) (w.alloc (Obj.cells #[.int .u8 (z : Int)] 5)) := by
  have e : (UInt8.ofNat z).toNat = z := by rw [UInt8.toNat_ofNat']; exact Nat.mod_eq_of_lt hz
  refine run_convert_bytes_back _ 68 9 5 ⟨w.heap.size, 0, none⟩ 1 [UInt8.ofNat z] Tryd.underlying68 Tryd.underlying5 Tryd.underlying9 fun j hj => ?_
  match j, hj with
  | 0, _ =>
    show (w.alloc (Obj.cells #[.int .u8 (z : Int)] 5)).cell? ⟨w.heap.size, 0, none⟩ = some (.int .u8 ((UInt8.ofNat z).toNat : Int))
    rw [e]
    simp
theorem of_toNat {n : Nat} (h : n < 256) : (UInt8.ofNat n).toNat = n := by rw [UInt8.toNat_ofNat']; exact Nat.mod_eq_of_lt h
end Go.Proofs.YtcjaaijohapeaaaDoor
