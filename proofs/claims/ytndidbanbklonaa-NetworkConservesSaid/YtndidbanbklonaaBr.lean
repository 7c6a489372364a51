import Derived.Test.YtndidbanbklonaaBq
import Derived.Laws.StructEq
/-
  Arrivals compared; the chapter's example, as the laws check it. No conditions beyond those that each names.
-/
namespace Go.Proofs.Ytndidbanbklonaa
open Go.RowKit Go.Sort Go.Lib Go.Shelf
theorem undA : Try.prog.underlying 34 = some (.struct (Try.prog.fieldsOf 34)) := by kernel_rfl
theorem stA : Try.prog.stoodInHeld 34 = false := by kernel_rfl
theorem fdA : (Try.prog.fieldsOf 34).toList.map (fun f => (f.name, f.type, f.offset)) = [("At", 3, 0), ("From", 3, 1), ("To", 3, 2), ("Number", 3, 3), ("Data", 9, 4)] := by kernel_rfl
theorem eqInA (x : Ar) (w : World) : (Op.equalIn 10000 34 (.agg #[.int .i64 x.at_, .int .i64 x.fr, .int .i64 x.to_, .int .i64 (x.num : Int), .string x.dat]) (.agg #[.int .i64 x.at_, .int .i64 x.fr, .int .i64 x.to_, .int .i64 (x.num : Int), .string x.dat])).run Try.prog w = .ok true w := by
  rw [run_equalIn_struct w 9999 34 _ _ undA stA]
  have h := fdA
  generalize (Try.prog.fieldsOf 34).toList = L at h
  rcases L with _ | ⟨f1, _ | ⟨f2, _ | ⟨f3, _ | ⟨f4, _ | ⟨f5, _ | ⟨f6, L⟩⟩⟩⟩⟩⟩
  · simp at h
  · simp at h
  · simp at h
  · simp at h
  · simp at h
  · simp only [List.map_cons, List.map_nil, List.cons.injEq, Prod.mk.injEq, and_true] at h
    obtain ⟨⟨a1, a2, a3⟩, ⟨b1, b2, b3⟩, ⟨c1, c2, c3⟩, ⟨d1, d2, d3⟩, g1, g2, g3⟩ := h
    simp [Op.eqFields, a1, a2, a3, b1, b2, b3, c1, c2, c3, d1, d2, d3, g1, g2, g3, part, go_sem]
  · simp at h
theorem neqA (x : Ar) (w : World) : (binOp .neq 34 (.agg #[.int .i64 x.at_, .int .i64 x.fr, .int .i64 x.to_, .int .i64 (x.num : Int), .string x.dat]) (.agg #[.int .i64 x.at_, .int .i64 x.fr, .int .i64 x.to_, .int .i64 (x.num : Int), .string x.dat])).run Try.prog w = .ok (.bool false) w := by
  rw [run_neq_struct, eqInA]; rfl
theorem eqlA (x : Ar) (w : World) : (binOp .eql 34 (.agg #[.int .i64 x.at_, .int .i64 x.fr, .int .i64 x.to_, .int .i64 (x.num : Int), .string x.dat]) (.agg #[.int .i64 x.at_, .int .i64 x.fr, .int .i64 x.to_, .int .i64 (x.num : Int), .string x.dat])).run Try.prog w = .ok (.bool true) w := by
  rw [run_eql_struct, eqInA]; rfl
def awF : List Ft := [⟨2, 0, 1, 0, 100, 7⟩, ⟨3, 0, 1, 0, 100, 3⟩]
def awS : Ns := sndS (Ns.new 2 10 awF) 1 0 1 ⟨#[120]⟩
theorem awT : awS.q.T = [18, 21] := by kernel_rfl
theorem awL : awS.q.fl = [⟨18, 0, 1, 1, ⟨#[120]⟩⟩, ⟨21, 0, 1, 1, ⟨#[120]⟩⟩] := by kernel_rfl
theorem awE : sndE (Ns.new 2 10 awF) 1 0 1 1 = 0 := by kernel_rfl
theorem awN : nwE 2 10 awF = 0 := by kernel_rfl
/-- The example's network. -/
def AwP (w : World) (e : Ending) (w' : World) : Prop := Below w.heap.size w w' ∧ ∃ c m fv, e = .returned (.tuple #[(.pointer (some ⟨c, 0, none⟩)), .int .i64 0]) ∧ Nw c w' m (fun _ => .slice none 0 0) (.slice none 0 0) fv (Ns.new 2 10 awF) ∧ ∀ i, Fp c m (fun _ => .slice none 0 0) (.slice none 0 0) i ∨ fv.ownBlock = some i → w.heap.size ≤ i
theorem aw1 (g : Nat) (w : World) (h : FtS w (some ⟨g, 0, none⟩) awF) : Calls Try.prog 8 #[.int .i64 2, .int .i64 10, .slice (some ⟨g, 0, none⟩) 2 2] w (AwP w) := by
  refine (new_any 2 10 _ 2 2 awF w rfl (by decide) h).mono ?_
  rintro e w' ⟨hb, ⟨h0, -⟩ | ⟨-, c, m, fv, rfl, k1, k2⟩⟩
  · exact absurd awN h0
  · exact ⟨hb, c, m, fv, rfl, k1, k2⟩
theorem aw2 (c : Nat) (w : World) (m : Nat) (V : Int → Value) (tv fv : Value) (h : Nw c w m V tv fv (Ns.new 2 10 awF)) : Calls Try.prog 23 #[(.pointer (some ⟨c, 0, none⟩)), .int .i64 1, .int .i64 0, .int .i64 1, .string ⟨#[120]⟩] w (NwM c m V tv fv awS (.tuple #[.int .i64 1, .int .i64 0]) w) := by
  have k := send_any c w m V tv fv (Ns.new 2 10 awF) 1 0 1 ⟨#[120]⟩ (by decide) h (Nat.zero_le _)
  rw [if_pos (show sndE (Ns.new 2 10 awF) 1 0 1 (ByteArray.size ⟨#[120]⟩) = 0 from awE), if_pos (show sndE (Ns.new 2 10 awF) 1 0 1 (ByteArray.size ⟨#[120]⟩) = 0 from awE)] at k
  exact k
theorem aw3 (c : Nat) (w : World) (m : Nat) (V : Int → Value) (tv fv : Value) (h : Nw c w m V tv fv awS) : Calls Try.prog 24 #[(.pointer (some ⟨c, 0, none⟩))] w (Is (.tuple #[.int .i64 18, .bool true]) w) := by
  have k := next_any c w m V tv fv awS h
  rw [awT] at k
  exact k
theorem aw4 (c : Nat) (w : World) (m : Nat) (V : Int → Value) (tv fv : Value) (h : Nw c w m V tv fv awS) : Calls Try.prog 11 #[(.pointer (some ⟨c, 0, none⟩)), .int .i64 21] w (fun e w' => ∃ g d q V' tv', e = .returned (.slice (some ⟨g, 0, none⟩) 2 d) ∧ OwA w.heap.size w' (.slice (some ⟨g, 0, none⟩) 2 d) [⟨18, 0, 1, 1, ⟨#[120]⟩⟩, ⟨21, 0, 1, 1, ⟨#[120]⟩⟩] ∧ Nw c w' m V' tv' fv (rcvS awS 21 q) ∧ ¬ Fp c m V' tv' g ∧ (∀ i, Fp c m V' tv' i → Fp c m V tv i) ∧ Fm (Fp c m V tv) w w') := by
  refine (receive_any c w m V tv fv awS 21 h).mono ?_
  rintro e w' ⟨x, l, q, V', tv', rfl, k1, k2, k3, -, k5, k6, k7⟩
  have hq : q.fl = [] := by
    cases hq : q.fl with
    | nil => rfl
    | cons a r =>
      have h1 := k5 a (by rw [hq]; exact List.mem_cons_self ..)
      have h2 : a ∈ awS.q.fl := by rw [k3, hq]; simp
      rw [awL] at h2
      simp only [List.mem_cons, List.not_mem_nil, or_false] at h2
      rcases h2 with rfl | rfl
      · exact absurd h1 (by decide)
      · exact absurd h1 (by decide)
  rw [hq, List.append_nil, awL] at k3
  subst k3
  obtain ⟨A, d, rfl, ⟨-, -, h0⟩ | ⟨g, rfl, hg, -⟩⟩ := own_nil_or k1
  · cases h0
  · exact ⟨g, d, q, V', tv', rfl, k1, k2, fun hf => by have := h.sb.fp_lt g (k6 g hf); omega, k6, k7⟩
theorem aw5 (c : Nat) (w : World) (m : Nat) (V : Int → Value) (tv fv : Value) (q : Sq) (h : Nw c w m V tv fv (rcvS awS 21 q)) : Calls Try.prog 23 #[(.pointer (some ⟨c, 0, none⟩)), .int .i64 5, .int .i64 0, .int .i64 0, .string ⟨#[115, 101, 108, 102]⟩] w (NwM c m V tv fv (rcvS awS 21 q) (.tuple #[.int .i64 0, .int .i64 4]) w) := by
  have k := send_any c w m V tv fv (rcvS awS 21 q) 5 0 0 ⟨#[115, 101, 108, 102]⟩ (by decide) h (by show 1 ≤ _; omega)
  have e : sndE (rcvS awS 21 q) 5 0 0 (ByteArray.size ⟨#[115, 101, 108, 102]⟩) = 4 := by
    have h0 : prB 2 0 0 = false := by decide
    unfold sndE
    show (if prB 2 0 0 = true then _ else _) = _
    rw [if_neg (by rw [h0]; decide)]
  rw [e, if_neg (by decide), if_neg (by decide)] at k
  exact k
theorem aw6 (c : Nat) (w : World) (m : Nat) (V : Int → Value) (tv fv : Value) (q : Sq) (h : Nw c w m V tv fv (rcvS awS 21 q)) : Calls Try.prog 12 #[(.pointer (some ⟨c, 0, none⟩))] w (Is (.int .i64 1) w) := sent_any c w m V tv fv (rcvS awS 21 q) h
theorem aw7 {B : Nat} {w w' : World} {g d : Nat} {s : Nat → Prop} (h : OwA B w (.slice (some ⟨g, 0, none⟩) 2 d) [⟨18, 0, 1, 1, ⟨#[120]⟩⟩, ⟨21, 0, 1, 1, ⟨#[120]⟩⟩]) (hf : Fm s w w') (hg : ¬ s g) : g < w'.heap.size ∧ w'.cell? ⟨g, 0, none⟩ = some (.int .i64 18) ∧ w'.cell? ⟨g, 1, none⟩ = some (.int .i64 0) ∧ w'.cell? ⟨g, 2, none⟩ = some (.int .i64 1) ∧ w'.cell? ⟨g, 3, none⟩ = some (.int .i64 1) ∧ w'.cell? ⟨g, 4, none⟩ = some (.string ⟨#[120]⟩) ∧ w'.cell? ⟨g, 5, none⟩ = some (.int .i64 21) ∧ w'.cell? ⟨g, 9, none⟩ = some (.string ⟨#[120]⟩) := by
  have h1 : OwA B w' (.slice (some ⟨g, 0, none⟩) 2 d) [⟨18, 0, 1, 1, ⟨#[120]⟩⟩, ⟨21, 0, 1, 1, ⟨#[120]⟩⟩] := h.blk fun g' e => by injection e with e; rw [← e]; exact hf.blk g (h.lt g rfl).2 hg
  have cl := fun i hi j v hv => own_cells e5_len h1 i hi j v hv
  exact ⟨(h1.lt g rfl).2, cl 0 (by decide) 0 _ rfl, cl 0 (by decide) 1 _ rfl, cl 0 (by decide) 2 _ rfl, cl 0 (by decide) 3 _ rfl, cl 0 (by decide) 4 _ rfl, cl 1 (by decide) 0 _ rfl, cl 1 (by decide) 4 _ rfl⟩
theorem Fm.tr {s : Nat → Prop} {w w1 w2 : World} (h : Fm s w w1) (k : Fm s w1 w2) : Fm s w w2 := h.trans k fun _ _ e => e
end Go.Proofs.Ytndidbanbklonaa
