/-
  New variables of two cells in a region; exact calls. No conditions beyond those that each names.
-/
import Derived.Test.YtgfahenhobnjpaaG3
import Derived.Test.YtgfahenhobnjpaaPp
namespace Go.Proofs.Ytgfahenhobnjpaa
open Go.RowKit
theorem Ib.ret {u : Value} {w : World} {e : Ending} {w' : World} (h : Ib u w e w') : Ret (Fact.eq u) w e w' := ⟨u, h.1, h.2, rfl⟩
theorem call0e {f : FuncId} {r : Value} (c : ∀ w, Calls Try.prog f #[] w (Ib r w)) : ∀ w, Calls Try.prog f #[] w (Ret (Fact.eq r) w) := fun w => (c w).mono fun _ _ h => Ib.ret h
theorem call1e {f : FuncId} {u r : Value} (c : ∀ w, Calls Try.prog f #[u] w (Ib r w)) : ∀ v w, (Fact.eq u).holds v w → Calls Try.prog f #[v] w (Ret (Fact.eq r) w) := fun v w h => by
  obtain rfl : v = u := h
  exact (c w).mono fun _ _ h => Ib.ret h
theorem call2e {f : FuncId} {u s r : Value} (c : ∀ w, Calls Try.prog f #[u, s] w (Ib r w)) : ∀ v x w, (Fact.eq u).holds v w → (Fact.eq s).holds x w → Calls Try.prog f #[v, x] w (Ret (Fact.eq r) w) := fun v x w h k => by
  obtain rfl : v = u := h
  obtain rfl : x = s := k
  exact (c w).mono fun _ _ h => Ib.ret h
theorem go_eql_pt (x y : Int) (a : Act) (w : World) (t s : Nat) (o : Oper) (ho : o.op = .binOp .eql 32 (.tmp t) (.tmp s) 32) (h1 : a.eval (.tmp t) = pt x y) (h2 : a.eval (.tmp s) = pt x y) :
    (execOp a.eval o).run Try.prog w = .ok (.value (.bool true)) w := by
  simp [execOp, ho, h1, h2]
  go_simp
theorem go_neq_pt (x y : Int) (a : Act) (w : World) (t s : Nat) (o : Oper) (ho : o.op = .binOp .neq 32 (.tmp t) (.tmp s) 32) (h1 : a.eval (.tmp t) = pt x y) (h2 : a.eval (.tmp s) = pt x y) :
    (execOp a.eval o).run Try.prog w = .ok (.value (.bool false)) w := by
  simp [execOp, ho, h1, h2]
  go_simp
/-- A pointer to a variable of two cells that can be written. -/
def Fact.room2 (y z : Value) : Fact := ⟨fun v w => ∃ b, v = .pointer (some ⟨b, 0, none⟩) ∧ b < w.heap.size ∧ w.cell? ⟨b, 0, none⟩ = some y ∧ w.cell? ⟨b, 1, none⟩ = some z ∧ w.frozen? ⟨b, 0, none⟩ = false ∧ w.frozen? ⟨b, 1, none⟩ = false,
  fun _ _ _ ⟨b, h, hl, h1, h2, h3, h4⟩ hb => ⟨b, h, Nat.lt_of_lt_of_le hl hb.size, ((bcell hb).1 b 0 hl).trans h1, ((bcell hb).1 b 1 hl).trans h2, ((bcell hb).2 b 0 hl).trans h3, ((bcell hb).2 b 1 hl).trans h4⟩⟩
section
variable {ops : Array Oper} {Q : Exit → Act → World → Prop} {F : Nat → Fact} {base : List Nat} {N : Nat} {o : Oper} {D : List Nat}
theorem obn_room (d : Nat) (ty : TypeId) (y z : Value) (ho : o.op = .alloc ty) (hd : o.dst = some d) (hg : o.guard = none) (hF : F d = Fact.room2 y z)
    (hrun : ∀ w : World, (Instr.alloc ty true (.tuple #[])).run Try.prog w = .ok (.pointer (some ⟨w.heap.size, 0, none⟩)) (w.alloc (Obj.cells #[y, z] ty))) : Obn ops Q F base N D o := by
  intro a w K hN hb hp hK
  rw [if_pos (by simp [Region.wanted, hg])]
  unfold Oper.wp
  rw [show (execOp a.eval o).run Try.prog w = .ok (.value (.pointer (some ⟨w.heap.size, 0, none⟩))) (w.alloc (Obj.cells #[y, z] ty)) from by simp [execOp, ho, hrun w]]
  refine hK _ _ (one _ _) (fun s hs => ?_) fun s _ _ => ⟨rfl, by simp⟩
  rw [hd] at hs; injection hs with hs; subst hs; rw [hF]
  exact ⟨w.heap.size, rfl, by simp, by simp, by simp, by simp, by simp⟩
/-- The address of an array's element. -/
theorem ob_ixat (w0 : World) (t d : Nat) (k : Int) (ty : TypeId) (p p' : Addr) (ho : o.op = .indexAddr ty (.tmp t) (.const (.int .i64 k))) (hd : o.dst = some d) (hg : GuardOk ops F base N o) (hk : known ops base o t = true) (hv : F t = Fact.at_ w0 (.pointer (some p))) (hF : F d = Fact.at_ w0 (.pointer (some p')))
    (hrun : ∀ w, (Instr.indexAt ty (.pointer (some p)) (.int .i64 k)).run Try.prog w = .ok (.pointer (some p')) w) : Ob ops Q F base N o :=
  ob_val hg fun a w hf => by
    have h1 := hf t hk
    rw [hv] at h1
    obtain ⟨h2, hb⟩ := h1
    have h3 : a.eval (.tmp t) = .pointer (some p) := h2
    have h4 : a.eval (.const (.int .i64 k)) = .int .i64 k := rfl
    exact ⟨.pointer (some p'), w, by simp [execOp, ho, h3, h4, hrun w], Below.refl _ _, fun s hs => by rw [hd] at hs; injection hs with hs; subst hs; rw [hF]; exact ⟨rfl, hb⟩⟩
end
end Go.Proofs.Ytgfahenhobnjpaa
