/-
  A region in which readers are asked, in whatever order: the calls told exactly; an element's address; a part of a tuple. No conditions beyond those that each names.
-/
import Derived.Test.YtclbdlbdnnhfmaaG3
import Derived.Test.YtclbdlbdnnhfmaaWq
import Derived.Test.YtclbdlbdnnhfmaaWi
namespace Go.Proofs.Ytclbdlbdnnhfmaa
open Go.RowKit
theorem Ib.ret {u : Value} {w : World} {e : Ending} {w' : World} (h : Ib u w e w') : Ret (Fact.eq u) w e w' := ⟨u, h.1, h.2, rfl⟩
theorem Is.ret {u : Value} {w : World} {e : Ending} {w' : World} (h : Is u w e w') : Ret (Fact.eq u) w e w' := ⟨u, h.1, h.2 ▸ Below.refl _ _, rfl⟩
theorem call1e {f : FuncId} {u r : Value} (c : ∀ w, Calls Try.prog f #[u] w (Ib r w)) : ∀ v w, (Fact.eq u).holds v w → Calls Try.prog f #[v] w (Ret (Fact.eq r) w) := fun v w h => by
  obtain rfl : v = u := h
  exact (c w).mono fun _ _ h => Ib.ret h
theorem call2e {f : FuncId} {u s r : Value} (c : ∀ w, Calls Try.prog f #[u, s] w (Ib r w)) : ∀ v x w, (Fact.eq u).holds v w → (Fact.eq s).holds x w → Calls Try.prog f #[v, x] w (Ret (Fact.eq r) w) := fun v x w h k => by
  obtain rfl : v = u := h
  obtain rfl : x = s := k
  exact (c w).mono fun _ _ h => Ib.ret h
theorem leftR {W0 : World} {g : Nat} {l : List UInt8} {e : Nat} (h : Rdr W0 g l e) : ∀ v w, (Fact.at_ W0 (.pointer (some ⟨g, 0, none⟩))).holds v w → Calls Try.prog 26 #[v] w (Ret (Fact.eq (.int .i64 (l.length : Nat))) w) := fun v w k => by
  obtain ⟨rfl, hb⟩ := k
  exact (left_any g l e w (h.next hb)).mono fun _ _ h => Is.ret h
theorem errR {W0 : World} {g : Nat} {l : List UInt8} {e : Nat} (h : Rdr W0 g l e) : ∀ v w, (Fact.at_ W0 (.pointer (some ⟨g, 0, none⟩))).holds v w → Calls Try.prog 28 #[v] w (Ret (Fact.eq (.int .i64 (e : Int))) w) := fun v w k => by
  obtain ⟨rfl, hb⟩ := k
  exact (err_any g l e w (h.next hb)).mono fun _ _ h => Is.ret h
theorem endR {W0 : World} {g : Nat} {l : List UInt8} {e : Nat} (h : Rdr W0 g l e) : ∀ v w, (Fact.at_ W0 (.pointer (some ⟨g, 0, none⟩))).holds v w → Calls Try.prog 29 #[v] w (Ret (Fact.eq (.int .i64 (eN l e : Nat))) w) := fun v w k => by
  obtain ⟨rfl, hb⟩ := k
  exact (end_any g l e w (h.next hb)).mono fun _ _ h => Is.ret h
theorem load3 {w : World} {b : Nat} {S : List UInt8} {a e : Nat} (h : V3 w b (.string (bs S)) (.int .i64 (a : Int)) (.int .i64 (e : Int))) : (Instr.loadAt 33 (.pointer (some ⟨b, 0, none⟩))).run Try.prog w = .ok (rs S a e) w := by
  obtain ⟨lt, c0, c1, c2, f0, f1, f2⟩ := h
  unfold rs
  go_simp
theorem load3e {w : World} {b : Nat} {x y : Value} {e : Nat} (h : V3 w b x y (.int .i64 (e : Int))) : (Instr.loadAt 31 (.pointer (some ⟨b, 2, none⟩))).run Try.prog w = .ok (.int .i64 (e : Int)) w := by
  obtain ⟨lt, c0, c1, c2, f0, f1, f2⟩ := h
  go_simp
theorem loadInt {w : World} {p : Addr} {m : Int} (h : w.cell? p = some (.int .i64 m)) : (Instr.loadAt 3 (.pointer (some p))).run Try.prog w = .ok (.int .i64 m) w := by
  go_simp
section
variable {ops : Array Oper} {Q : Exit → Act → World → Prop} {F : Nat → Fact} {base : List Nat} {N : Nat} {o : Oper}
theorem ob_indexat (w0 : World) (t s d : Nat) (ty : TypeId) (v : Value) (j : Int) (p : Addr) (ho : o.op = .indexAddr ty (.tmp t) (.tmp s)) (hd : o.dst = some d) (hg : GuardOk ops F base N o) (hk : known ops base o t = true) (hk2 : known ops base o s = true) (hv : F t = Fact.at_ w0 v) (hs : F s = Fact.eq (.int .i64 j)) (hF : F d = Fact.at_ w0 (.pointer (some p)))
    (hrun : ∀ w, (Instr.indexAt ty v (.int .i64 j)).run Try.prog w = .ok (.pointer (some p)) w) : Ob ops Q F base N o :=
  ob_val hg fun a w hf => by
    have h1 := hf t hk
    rw [hv] at h1
    obtain ⟨h2, hb⟩ := h1
    have h5 := hf s hk2
    rw [hs] at h5
    have h3 : a.eval (.tmp t) = v := h2
    have h4 : a.eval (.tmp s) = .int .i64 j := h5
    exact ⟨.pointer (some p), w, by simp [execOp, ho, h3, h4, hrun w], Below.refl _ _, fun x hx => by rw [hd] at hx; injection hx with hx; subst hx; rw [hF]; exact ⟨rfl, hb⟩⟩
theorem ob_ext0 (t d : Nat) (x y : Value) (ho : o.op = .extract (.tmp t) 0) (hd : o.dst = some d) (hg : GuardOk ops F base N o) (hk : known ops base o t = true) (ht : F t = Fact.eq (.tuple #[x, y])) (hF : F d = Fact.eq x) : Ob ops Q F base N o :=
  ob_one t d _ _ hd hg hk ht hF fun a w h => by
    simp [execOp, ho, h]
    go_simp
theorem ob_ext1 (t d : Nat) (x y : Value) (ho : o.op = .extract (.tmp t) 1) (hd : o.dst = some d) (hg : GuardOk ops F base N o) (hk : known ops base o t = true) (ht : F t = Fact.eq (.tuple #[x, y])) (hF : F d = Fact.eq y) : Ob ops Q F base N o :=
  ob_one t d _ _ hd hg hk ht hF fun a w h => by
    simp [execOp, ho, h]
    go_simp
theorem ob_not (t d : Nat) (b : Bool) (ho : o.op = .unOp .not 4 (.tmp t)) (hd : o.dst = some d) (hg : GuardOk ops F base N o) (hk : known ops base o t = true) (ht : F t = Fact.eq (.bool b)) (hF : F d = Fact.eq (.bool (!b))) : Ob ops Q F base N o :=
  ob_one t d _ _ hd hg hk ht hF fun a w h => by
    simp [execOp, ho, h]
    go_simp
end
end Go.Proofs.Ytclbdlbdnnhfmaa
