/-
  Entries met with fields one after the other: what it gives is what the specification says, where the fields' numbers ascend; rows of types that a call owns. No conditions beyond those that each names.
-/
import Derived.Test.YtlebppjldoodgaaM12
import Derived.Deep.QuietTactic
import Derived.BigQuiet
import Derived.Test.YtlebppjldoodgaaM13
import Derived.Test.YtlebppjldoodgaaM14
namespace Go.Proofs.Ytlebppjldoodgaa
open Go.RowKit Go.Maps
/-- The types of entries that are met with fields in their order. -/
def mt : List Fd → List (Int × Vl) → Option (List Ty)
  | [], [] => some []
  | [], _ :: _ => none
  | x :: d, [] => if x.opt then mt d [] else none
  | x :: d, e :: f => if e.1 = x.num then (mt d f).map (x.type :: ·) else if x.opt then mt d (e :: f) else none
def AscD (d : List Fd) : Prop := d.Pairwise fun a b => a.num < b.num
def Shp (d : List Fd) (f : List (Int × Vl)) : Prop := (f.Pairwise fun a b => a.1 < b.1) ∧ (∀ e ∈ f, ∃ y ∈ d, y.num = e.1) ∧ ∀ y ∈ d, y.opt = true ∨ ∃ e ∈ f, e.1 = y.num
theorem ascF_iff : ∀ {f : List (Int × Vl)}, ascF f = true ↔ f.Pairwise fun a b => a.1 < b.1
  | [] => by simp [ascF]
  | [a] => by simp [ascF]
  | a :: b :: l => by
    rw [ascF, Bool.and_eq_true, decide_eq_true_eq, ascF_iff (f := b :: l), List.pairwise_cons (a := a)]
    constructor
    · rintro ⟨h1, h2⟩
      refine ⟨fun x hx => ?_, h2⟩
      rcases List.mem_cons.1 hx with rfl | hx
      · exact h1
      · exact Int.lt_trans h1 ((List.pairwise_cons.1 h2).1 x hx)
    · rintro ⟨h1, h2⟩
      exact ⟨h1 b (by simp), h2⟩
theorem shp_iff {d : List Fd} {f : List (Int × Vl)} : shp d f = true ↔ Shp d f := by
  unfold shp Shp
  rw [Bool.and_eq_true, Bool.and_eq_true, ascF_iff, List.all_eq_true, List.all_eq_true]
  refine and_congr_right fun _ => and_congr ?_ ?_
  · refine forall_congr' fun e => imp_congr_right fun _ => ?_
    constructor
    · intro h
      obtain ⟨y, hy⟩ := Option.isSome_iff_exists.1 h
      obtain ⟨h1, h2⟩ := fst_mem hy
      exact ⟨y, h1, h2⟩
    · rintro ⟨y, h1, h2⟩
      cases h : fst_ Fd.num d e.1 with
      | some _ => rfl
      | none => exact absurd h2 (fst_none.1 h y h1)
  · refine forall_congr' fun y => imp_congr_right fun _ => ?_
    simp only [Bool.or_eq_true, List.any_eq_true, decide_eq_true_eq]
    exact or_comm
theorem Shp.nil (x : Fd) (d : List Fd) : Shp (x :: d) [] ↔ x.opt = true ∧ Shp d [] := by
  unfold Shp
  simp
theorem Shp.hit {x : Fd} {d : List Fd} {e : Int × Vl} {f : List (Int × Vl)} (h : AscD (x :: d)) (he : e.1 = x.num) : Shp (x :: d) (e :: f) ↔ Shp d f := by
  obtain ⟨hx, -⟩ := List.pairwise_cons.1 h
  unfold Shp
  rw [List.pairwise_cons]
  constructor
  · rintro ⟨⟨h1, h2⟩, h3, h4⟩
    refine ⟨h2, fun e' he' => ?_, fun y hy => ?_⟩
    · obtain ⟨y, hy, k⟩ := h3 e' (by simp [he'])
      rcases List.mem_cons.1 hy with rfl | hy
      · have := h1 e' he'; omega
      · exact ⟨y, hy, k⟩
    · rcases h4 y (by simp [hy]) with k | ⟨e', he', k⟩
      · exact .inl k
      · rcases List.mem_cons.1 he' with rfl | he'
        · have := hx y hy; omega
        · exact .inr ⟨e', he', k⟩
  · rintro ⟨h2, h3, h4⟩
    refine ⟨⟨fun e' he' => ?_, h2⟩, fun e' he' => ?_, fun y hy => ?_⟩
    · obtain ⟨y, hy, k⟩ := h3 e' he'
      have := hx y hy; omega
    · rcases List.mem_cons.1 he' with rfl | he'
      · exact ⟨x, by simp, he.symm⟩
      · obtain ⟨y, hy, k⟩ := h3 e' he'
        exact ⟨y, by simp [hy], k⟩
    · rcases List.mem_cons.1 hy with rfl | hy
      · exact .inr ⟨e, by simp, he⟩
      · rcases h4 y hy with k | ⟨e', he', k⟩
        · exact .inl k
        · exact .inr ⟨e', by simp [he'], k⟩
theorem Shp.miss {x : Fd} {d : List Fd} {e : Int × Vl} {f : List (Int × Vl)} (h : AscD (x :: d)) (he : e.1 ≠ x.num) : Shp (x :: d) (e :: f) ↔ x.opt = true ∧ Shp d (e :: f) := by
  obtain ⟨hx, -⟩ := List.pairwise_cons.1 h
  unfold Shp
  constructor
  · rintro ⟨h1, h3, h4⟩
    have hne : ∀ e' ∈ e :: f, e'.1 ≠ x.num := fun e' he' k => by
      rcases List.mem_cons.1 he' with rfl | he'
      · exact he k
      · have h5 := (List.pairwise_cons.1 h1).1 e' he'
        obtain ⟨y, hy, k2⟩ := h3 e (by simp)
        rcases List.mem_cons.1 hy with rfl | hy
        · exact he k2.symm
        · have := hx y hy; omega
    refine ⟨?_, h1, fun e' he' => ?_, fun y hy => h4 y (by simp [hy])⟩
    · rcases h4 x (by simp) with k | ⟨e', he', k⟩
      · exact k
      · exact absurd k (hne e' he')
    · obtain ⟨y, hy, k⟩ := h3 e' he'
      rcases List.mem_cons.1 hy with rfl | hy
      · exact absurd k.symm (hne e' he')
      · exact ⟨y, hy, k⟩
  · rintro ⟨h0, h1, h3, h4⟩
    refine ⟨h1, fun e' he' => ?_, fun y hy => ?_⟩
    · obtain ⟨y, hy, k⟩ := h3 e' he'
      exact ⟨y, by simp [hy], k⟩
    · rcases List.mem_cons.1 hy with rfl | hy
      · exact .inl h0
      · exact h4 y hy
theorem mt_shp : ∀ {d : List Fd} {f : List (Int × Vl)}, AscD d → ((mt d f).isSome = true ↔ Shp d f)
  | [], [], _ => by simp [mt, Shp]
  | [], e :: f, _ => by
    rw [mt]
    constructor
    · intro h; cases h
    · rintro ⟨-, h, -⟩
      obtain ⟨y, hy, -⟩ := h e (by simp)
      cases hy
  | x :: d, [], h => by
    rw [mt, Shp.nil, ← mt_shp (List.pairwise_cons.1 h).2]
    cases x.opt <;> simp
  | x :: d, e :: f, h => by
    rw [mt]
    by_cases he : e.1 = x.num
    · rw [if_pos he, Shp.hit h he, ← mt_shp (List.pairwise_cons.1 h).2]
      simp
    · rw [if_neg he, Shp.miss h he, ← mt_shp (List.pairwise_cons.1 h).2]
      cases x.opt <;> simp
/-- Whether an entry's value is shaped as the struct asks. -/
theorem mt_shape {d : List Fd} {f : List (Int × Vl)} (h : AscD d) : (mt d f).isSome = shp d f := by
  rw [Bool.eq_iff_iff, mt_shp h, shp_iff]
theorem fst_skip {x : Fd} {d : List Fd} {m : Int} (h : m ≠ x.num) : fst_ Fd.num (x :: d) m = fst_ Fd.num d m := by
  rw [fst_cons, if_neg (fun e => h e.symm)]
theorem mt_types : ∀ {d : List Fd} {f : List (Int × Vl)} {T : List Ty}, AscD d → mt d f = some T → T = f.map fun e => ((fst_ Fd.num d e.1).getD fd0).type
  | [], [], T, _, e => by simp [mt] at e; subst e; rfl
  | [], _ :: _, T, _, e => by simp [mt] at e
  | x :: d, [], T, h, e => by
    rw [mt] at e
    split at e
    · have := mt_types (d := d) (f := []) (List.pairwise_cons.1 h).2 e
      rw [this]; rfl
    · cases e
  | x :: d, e :: f, T, h, k => by
    have hs := (mt_shp (f := e :: f) h).1 (by rw [k]; rfl)
    rw [mt] at k
    obtain ⟨hx, hd⟩ := List.pairwise_cons.1 h
    by_cases he : e.1 = x.num
    · rw [if_pos he] at k
      cases h2 : mt d f with
      | none => rw [h2] at k; cases k
      | some U =>
        rw [h2] at k
        have k : x.type :: U = T := by simpa using k
        subst k
        have hs2 := ((Shp.hit h he).1 hs).2.1
        rw [List.map_cons, fst_cons, if_pos he.symm, mt_types hd h2]
        congr 1
        refine List.map_congr_left fun e' he' => ?_
        obtain ⟨y, hy, k⟩ := hs2 e' he'
        rw [fst_skip (by have := hx y hy; omega)]
    · rw [if_neg he] at k
      have hs2 := ((Shp.miss h he).1 hs).2.2.1
      split at k
      · rw [mt_types hd k]
        refine List.map_congr_left fun e' he' => ?_
        obtain ⟨y, hy, k⟩ := hs2 e' he'
        rw [fst_skip (by have := hx y hy; omega)]
      · cases k
/-- What remains to be met. -/
theorem mt_end_nil : mt [] [] = some [] := rfl
theorem mt_end_cons (e : Int × Vl) (f : List (Int × Vl)) : mt [] (e :: f) = none := rfl
theorem mt_opt {x : Fd} {d : List Fd} {f : List (Int × Vl)} (h : ∀ e g, f = e :: g → e.1 ≠ x.num) (ho : x.opt = true) : mt (x :: d) f = mt d f := by
  cases f with
  | nil => rw [mt, if_pos ho]
  | cons e g => rw [mt, if_neg (h e g rfl), if_pos ho]
theorem mt_must {x : Fd} {d : List Fd} {f : List (Int × Vl)} (h : ∀ e g, f = e :: g → e.1 ≠ x.num) (ho : x.opt = false) : mt (x :: d) f = none := by
  cases f with
  | nil => rw [mt, if_neg (by simp [ho])]
  | cons e g => rw [mt, if_neg (h e g rfl), if_neg (by simp [ho])]
theorem mt_hit {x : Fd} {d : List Fd} {e : Int × Vl} {f : List (Int × Vl)} (h : e.1 = x.num) : mt (x :: d) (e :: f) = (mt d f).map (x.type :: ·) := by rw [mt, if_pos h]
def tyC (l : List (Ty × Option Addr × Nat)) : List Value := l.flatMap fun p => [.int .i64 p.1.kind, .int .i64 p.1.size, .string (bs p.1.name), .slice p.2.1 p.1.elem.length p.2.2]
theorem tyC_len (l : List (Ty × Option Addr × Nat)) : (tyC l).length = l.length * 4 := by
  induction l with
  | nil => rfl
  | cons p l ih =>
    have h : (tyC (p :: l)).length = (tyC l).length + 4 := rfl
    rw [h, ih, List.length_cons]; omega
theorem tyC_at : ∀ {l : List (Ty × Option Addr × Nat)} {i : Nat} (hi : i < l.length), (tyC l)[i * 4]? = some (.int .i64 (l[i]'hi).1.kind) ∧ (tyC l)[i * 4 + 1]? = some (.int .i64 (l[i]'hi).1.size) ∧ (tyC l)[i * 4 + 2]? = some (.string (bs (l[i]'hi).1.name)) ∧ (tyC l)[i * 4 + 3]? = some (.slice (l[i]'hi).2.1 (l[i]'hi).1.elem.length (l[i]'hi).2.2)
  | p :: l, 0, _ => ⟨rfl, rfl, rfl, rfl⟩
  | p :: l, i + 1, hi => by
    have := tyC_at (l := l) (i := i) (by simpa using hi)
    have e : (i + 1) * 4 = i * 4 + 1 + 1 + 1 + 1 := by omega
    rw [e]
    exact this
/-- The slice v owns the types l. -/
def TyR (B : Nat) (W0 w : World) (v : Value) (l : List (Ty × Option Addr × Nat)) : Prop := w.ownsRow B 37 4 v l.length (tyC l) ∧ ∀ p ∈ l, Rw TyA 4 W0 p.1.elem p.2.1
theorem TyR.nil (B : Nat) (W0 w : World) : TyR B W0 w (.slice none 0 0) [] := ⟨World.ownsRow_nil _ _ _ _, fun _ h => by cases h⟩
theorem TyR.other {B : Nat} {W0 w w' : World} {v : Value} {l : List (Ty × Option Addr × Nat)} (h : TyR B W0 w v l) (hb : Below w.heap.size w w') : TyR B W0 w' v l := ⟨own_next h.1 hb, h.2⟩
theorem TyR.sl {B : Nat} {W0 w : World} {v : Value} {l : List (Ty × Option Addr × Nat)} (h : TyR B W0 w v l) (hb : Below W0.heap.size W0 w) : Sl TyA 4 w (l.map Prod.fst) v := by
  obtain ⟨h1, hp⟩ := h
  have h2 := h1
  obtain ⟨-, ⟨rfl, h3⟩ | ⟨g, cap, cur, rfl, -⟩⟩ := h2
  · obtain rfl := List.eq_nil_of_length_eq_zero h3
    exact Sl.nil _ _ _
  · refine ⟨_, cap, by rw [List.length_map], .inr ⟨_, rfl, fun i hi => ?_⟩⟩
    have hi2 : i < l.length := by simpa using hi
    obtain ⟨e0, e1, e2, e3⟩ := tyC_at hi2
    have c0 := World.ownsRow.cells h1 (g := g) rfl _ _ e0
    have c1 := World.ownsRow.cells h1 (g := g) rfl _ _ e1
    have c2 := World.ownsRow.cells h1 (g := g) rfl _ _ e2
    have c3 := World.ownsRow.cells h1 (g := g) rfl _ _ e3
    rw [List.getElem_map]
    rw [Addr.add_lit] at c0 c1 c2 c3 ⊢
    exact TyA.of c0 c1 c2 c3 ((hp _ (List.getElem_mem hi2)).next fun x p => TyA.next hb x p)
theorem infoTy : (Try.prog.info? 37).map (fun i => (i.zero, i.size, i.bytes)) = some (some (.agg #[.int .i64 0, .int .i64 0, .string ⟨#[]⟩, .slice none 0 0]), 4, 56) := by kernel_rfl
theorem wpList_pushTy {w : World} {ops : Array Oper} {rest : List Oper} {o : Oper} {a : Act} {Q : Exit → Act → World → Prop} (hgd : o.guard = none) (s x : Operand)
    (ho : o.op = .call { callee := .builtin .append, args := #[s, x], argTypes := #[35, 35] }) (B : Nat) (W0 : World) (v : Value) (l : List (Ty × Option Addr × Nat)) (t : Ty) (A : Option Addr) (c : Nat) (ad : Addr) (d : Nat) (hs : a.eval s = v) (hx : a.eval x = .slice (some ad) 1 d)
    (hown : TyR B W0 w v l) (hA : Rw TyA 4 W0 t.elem A) (h0 : w.cell? (ad.add 0) = some (.int .i64 t.kind)) (h1 : w.cell? (ad.add 1) = some (.int .i64 t.size)) (h2 : w.cell? (ad.add 2) = some (.string (bs t.name))) (h3 : w.cell? (ad.add 3) = some (.slice A t.elem.length c)) (hm : l.length ≤ 100000) (hB : B ≤ w.heap.size)
    (h : ∀ v' w', TyR B W0 w' v' (l ++ [(t, A, c)]) → w.grownBy w' v.ownBlock → (v'.ownBlock = v.ownBlock ∨ v'.ownBlock = some w.heap.size) → wpList Try.prog ops Q rest (a.put o.dst v') w') : wpList Try.prog ops Q (o :: rest) a w := by
  obtain ⟨i, hi, hz, hs5, hby⟩ := info_parts infoTy
  refine wpList_append_own_at w hgd s x 35 ho B 37 i _ 4 56 Try.underlying35 hi hz hs5 hby rfl (by omega) v l.length (tyC l) hs hown.1 ad 1 d [.int .i64 t.kind, .int .i64 t.size, .string (bs t.name), .slice A t.elem.length c] hx rfl
    (by intro j u hj
        match j, hj with
        | 0, hj => simp at hj; subst hj; exact h0
        | 1, hj => simp at hj; subst hj; exact h1
        | 2, hj => simp at hj; subst hj; exact h2
        | 3, hj => simp at hj; subst hj; exact h3) (by simp [Value.oneCell']) (by simp only [maxLen]; omega) (by omega) hB ?_
  intro v' w' h1 h2 _ h4
  refine h v' w' ⟨?_, ?_⟩ h2 h4
  · rw [show tyC (l ++ [(t, A, c)]) = tyC l ++ [.int .i64 t.kind, .int .i64 t.size, .string (bs t.name), .slice A t.elem.length c] by simp [tyC], List.length_append]
    exact h1
  · intro p hp
    rcases List.mem_append.1 hp with hp | hp
    · exact hown.2 p hp
    · obtain rfl : p = (t, A, c) := by simpa using hp
      exact hA
end Go.Proofs.Ytlebppjldoodgaa
/-
  The developers' match: the types of entries, field by field. No conditions beyond those that each names.
-/
namespace Go.Proofs.Ytlebppjldoodgaa
open Go.RowKit
theorem mt_step_hit {d : List Fd} {f : List (Int × Vl)} {l : List Ty} {k m : Nat} (hk : k < d.length) (hm : m < f.length) (h : mt d f = (mt (d.drop k) (f.drop m)).map (l ++ ·)) (he : (f[m]'hm).1 = (d[k]'hk).num) :
    mt d f = (mt (d.drop (k + 1)) (f.drop (m + 1))).map ((l ++ [(d[k]'hk).type]) ++ ·) := by
  rw [h, List.drop_eq_getElem_cons hk, List.drop_eq_getElem_cons hm, mt_hit he]
  cases mt (d.drop (k + 1)) (f.drop (m + 1)) <;> simp
theorem drop_ne {d : List Fd} {f : List (Int × Vl)} {k m : Nat} (hk : k < d.length) (hne : ∀ hm : m < f.length, (f[m]'hm).1 ≠ (d[k]'hk).num) : ∀ e g, f.drop m = e :: g → e.1 ≠ (d[k]'hk).num := fun e g hg => by
  by_cases hm : m < f.length
  · rw [List.drop_eq_getElem_cons hm] at hg
    injection hg with h1 _
    rw [← h1]
    exact hne hm
  · rw [List.drop_eq_nil_of_le (by omega)] at hg
    cases hg
theorem mt_step_opt {d : List Fd} {f : List (Int × Vl)} {l : List Ty} {k m : Nat} (hk : k < d.length) (h : mt d f = (mt (d.drop k) (f.drop m)).map (l ++ ·)) (hne : ∀ hm : m < f.length, (f[m]'hm).1 ≠ (d[k]'hk).num) (ho : (d[k]'hk).opt = true) :
    mt d f = (mt (d.drop (k + 1)) (f.drop m)).map (l ++ ·) := by
  rw [h, List.drop_eq_getElem_cons hk, mt_opt (drop_ne hk hne) ho]
theorem mt_step_must {d : List Fd} {f : List (Int × Vl)} {l : List Ty} {k m : Nat} (hk : k < d.length) (h : mt d f = (mt (d.drop k) (f.drop m)).map (l ++ ·)) (hne : ∀ hm : m < f.length, (f[m]'hm).1 ≠ (d[k]'hk).num) (ho : (d[k]'hk).opt = false) :
    mt d f = none := by
  rw [h, List.drop_eq_getElem_cons hk, mt_must (drop_ne hk hne) ho]
  rfl
theorem mt_stop {d : List Fd} {f : List (Int × Vl)} {l : List Ty} {m : Nat} (h : mt d f = (mt (d.drop d.length) (f.drop m)).map (l ++ ·)) (hm : m = f.length) : mt d f = some l := by
  rw [h, List.drop_eq_nil_of_le (Nat.le_refl _), List.drop_eq_nil_of_le (by omega)]
  simp [mt]
theorem mt_over {d : List Fd} {f : List (Int × Vl)} {l : List Ty} {m : Nat} (h : mt d f = (mt (d.drop d.length) (f.drop m)).map (l ++ ·)) (hm : m < f.length) : mt d f = none := by
  rw [h, List.drop_eq_nil_of_le (Nat.le_refl _), List.drop_eq_getElem_cons hm]
  simp [mt]
/-- The types of the entries, or that they are not as the fields ask. -/
def MtP (d : List Fd) (f : List (Int × Vl)) (w : World) (e : Ending) (w' : World) : Prop :=
  ∃ (A : Option Addr) (n c : Nat), e = .returned (.tuple #[.slice A n c, .bool (mt d f).isSome]) ∧ Below w.heap.size w w' ∧ ∀ T, mt d f = some T → n = T.length ∧ Rw TyA 4 w' T A
theorem MtP.none_ {d : List Fd} {f : List (Int × Vl)} {w w' : World} {A : Option Addr} {n c : Nat} (h : mt d f = none) (hb : Below w.heap.size w w') : MtP d f w (.returned (.tuple #[.slice A n c, .bool false])) w' := ⟨A, n, c, by rw [h]; rfl, hb, fun T e => by rw [h] at e; cases e⟩
theorem MtP.some_ {d : List Fd} {f : List (Int × Vl)} {w w' : World} {A : Option Addr} {n c : Nat} {l : List (Ty × Option Addr × Nat)} (h : mt d f = some (l.map Prod.fst)) (hb : Below w.heap.size w w') (hT : TyR w.heap.size w w' (.slice A n c) l) : MtP d f w (.returned (.tuple #[.slice A n c, .bool true])) w' := by
  refine ⟨A, n, c, by rw [h]; rfl, hb, fun T e => ?_⟩
  rw [h] at e
  injection e with e
  subst e
  obtain ⟨B, q, e2, h2⟩ := hT.sl hb
  injection e2 with e3 e4 e5
  subst e3
  exact ⟨e4, h2⟩
theorem own_ge {base : Nat} {w : World} {e : TypeId} {z n : Nat} {v : Value} {xs : List Value} (h : w.ownsRow base e z v n xs) {g : Nat} (hg : v.ownBlock = some g) : base ≤ g := by
  rcases h.2 with ⟨rfl, -⟩ | ⟨g', cap, cur, rfl, h2, -⟩
  · simp [Value.ownBlock] at hg
  · simp [Value.ownBlock] at hg
    rw [← hg]
    exact h2
set_option maxRecDepth 100000 in
set_option maxHeartbeats 8000000 in
theorem match_any (d : List Fd) (f : List (Int × Vl)) (A : Option Addr) (c : Nat) (B : Option Addr) (b : Nat) (w : World) (hd : d.length ≤ 1000) (hf : f.length ≤ 9223372036854775807) (hD : Rw FdA 7 w d A) (hF : Rw EtA 6 w f B) :
    Calls Try.prog 78 #[.slice A d.length c, .slice B f.length b] w (MtP d f w) := by
  obtain ⟨n, hn⟩ : ∃ n, d.length = n := ⟨_, rfl⟩
  obtain ⟨q, hq⟩ : ∃ q, f.length = q := ⟨_, rfl⟩
  have HN := Lib.hid hn
  have HQ := Lib.hid hq
  rw [hn] at hd ⊢
  rw [hq] at hf ⊢
  clear hn hq
  have H0 : Hid (mt d f = (mt (d.drop 0) (f.drop 0)).map (([] : List Ty) ++ ·)) := Lib.hid (by simp)
  go_enter Try.func78, Try.ntmps78
  go_wp2_with fail
  go_loopw [6, 12] (fun v i wr => ∃ (k : Nat) (l : List (Ty × Option Addr × Nat)), k ≤ n ∧ i = .int .i64 (k : Int) ∧ Hid (l.length ≤ k ∧ l.length ≤ q) ∧ Hid (TyR w.heap.size w wr v l) ∧ Hid (mt d f = (mt (d.drop k) (f.drop l.length)).map ((l.map Prod.fst) ++ ·)) ∧ Below w.heap.size w wr) (fun _ i _ => n - (intOf i).toNat)
  case atStart => exact ⟨0, [], by omega, rfl, Lib.hid ⟨Nat.le_refl _, Nat.zero_le _⟩, Lib.hid (TyR.nil _ _ _), H0, Below.refl _ _⟩
  case round =>
    obtain ⟨k, l, hk, rfl, HL, HT, HI, hb⟩ := hrel
    clear H0
    obtain ⟨m, C, cc, hm, hv⟩ : ∃ m C cc, l.length = m ∧ u6 = .slice C m cc := by
      obtain ⟨C, cc, h, -⟩ := HT.out.sl hb
      rw [List.length_map] at h
      exact ⟨_, C, cc, rfl, h⟩
    subst hv
    have HM := Lib.hid hm
    have hm1 : m ≤ 1000 := by have := HL.out.1; omega
    have hmq : m ≤ q := by have := HL.out.2; omega
    clear hm
    by_cases hlt : k < n
    · have hk1 := Lib.hid hlt
      have hkd : k < d.length := by rw [HN.out]; exact hlt
      obtain ⟨a, rfl, hA⟩ := hD.get hkd
      obtain ⟨z0, z1, z2, z3, z4, ⟨A3, c3, z5, hEt⟩, z6⟩ := hA
      have x0 := cell_next hb z0
      have x1 := cell_next hb z1
      have x2 := cell_next hb z2
      have x3 := cell_next hb z3
      have x4 := cell_next hb z4
      have x5 := cell_next hb z5
      have x6 := cell_next hb z6
      have hblk : (a.add (k * 7)).block < wr.heap.size := blk_lt x0
      clear z0 z1 z2 z3 z4 z5 z6
      have HOpt := Lib.hid (fun (hne : ∀ hm : l.length < f.length, (f[l.length]'hm).1 ≠ (d[k]'hkd).num) (ho : (d[k]'hkd).opt = true) => mt_step_opt hkd HI.out hne ho)
      have HMust := Lib.hid (fun (hne : ∀ hm : l.length < f.length, (f[l.length]'hm).1 ≠ (d[k]'hkd).num) (ho : (d[k]'hkd).opt = false) => mt_step_must hkd HI.out hne ho)
      have HHit := Lib.hid (fun (hm : l.length < f.length) (he : (f[l.length]'hm).1 = (d[k]'hkd).num) => mt_step_hit hkd hm HI.out he)
      generalize d[k]'hkd = x at *
      clear HI
      by_cases hmlt : m < q
      · have dm : decide (m < q) = true := decide_eq_true hmlt
        have hmf : l.length < f.length := by rw [HM.out, HQ.out]; exact hmlt
        obtain ⟨b', rfl, hE⟩ := hF.get hmf
        have y0 : wr.cell? (b'.add (m * 6)) = some (.int .i64 (f[l.length]'hmf).1) := by
          have := cell_next hb hE.1
          rwa [show l.length * 6 = m * 6 by rw [HM.out]] at this
        have hblk2 : (b'.add (m * 6)).block < wr.heap.size := blk_lt y0
        clear hE
        by_cases he : (f[l.length]'hmf).1 = x.num
        · have HH := Lib.hid (HHit.out hmf he)
          rw [he] at y0
          have q1 : (x.num == x.num) = true := by simp
          clear HHit HMust HOpt he hmf
          go_wp2_with fail
          go_quiet (fail)
          have hbW := Below.next (below_drewN (ab1 wr (Obj.cells #[.int .i64 x.num, .string (bs x.name), .int .i64 x.type.kind, .int .i64 x.type.size, .string (bs x.type.name), .slice A3 x.type.elem.length c3, .bool x.opt] 61)) nq) (ab1 _ (Obj.cells #[.int .i64 x.type.kind, .int .i64 x.type.size, .string (bs x.type.name), .slice A3 x.type.elem.length c3] 37))
          have B2 := Bx.new4 ((wr.alloc (Obj.cells #[.int .i64 x.num, .string (bs x.name), .int .i64 x.type.kind, .int .i64 x.type.size, .string (bs x.type.name), .slice A3 x.type.elem.length c3, .bool x.opt] 61)).drewN nq) 37 (.int .i64 x.type.kind) (.int .i64 x.type.size) (.string (bs x.type.name)) (.slice A3 x.type.elem.length c3)
          rw [show ((wr.alloc (Obj.cells #[.int .i64 x.num, .string (bs x.name), .int .i64 x.type.kind, .int .i64 x.type.size, .string (bs x.type.name), .slice A3 x.type.elem.length c3, .bool x.opt] 61)).drewN nq).heap.size = wr.heap.size + 1 by simp] at B2
          go_wp2_with (at_builtin; refine wpList_pushTy rfl (.tmp 32) (.tmp 35) rfl w.heap.size w (.slice C m cc) l x.type A3 c3 ⟨wr.heap.size + 1, 0, none⟩ 1 rfl rfl (HT.out.other hbW) hEt (B2.c 0 rfl) (B2.c 1 rfl) (B2.c 2 rfl) (B2.c 3 rfl) (by rw [HM.out]; omega) (Nat.le_trans hb.size hbW.size) ?_; intro v' w6 ho' hg' h4')
          have hb6 : Below w.heap.size w w6 := (Below.next hb hbW).grown hg' (Below.next hb hbW).size (by intro g hg; exact own_ge HT.out.1 hg)
          go_roundw
          case rel => exact ⟨k + 1, l ++ [(x.type, A3, c3)], hk1.out, by go_num, Lib.hid ⟨by have := HL.out.1; simp; omega, by have := HM.out; simp; omega⟩, Lib.hid ho', Lib.hid (by have := HH.out; simpa using this), hb6⟩
          case measure => have := hk1.out; simp [intOf]; omega
        · have hne : ∀ hm : l.length < f.length, (f[l.length]'hm).1 ≠ x.num := fun hm => he
          have HO := Lib.hid (HOpt.out hne)
          have HU := Lib.hid (HMust.out hne)
          have q1 : ((f[l.length]'hmf).1 == x.num) = false := by simpa using he
          generalize (f[l.length]'hmf).1 = y at *
          clear HHit HMust HOpt he hmf hne
          by_cases hopt : x.opt = true
          · have HO2 := Lib.hid (HO.out hopt)
            rw [hopt] at x6
            clear HO HU hopt
            go_wp2_with fail
            go_quiet (fail)
            go_wp2_with fail
            go_roundw
            case rel => exact ⟨k + 1, l, hk1.out, by go_num, Lib.hid ⟨by have := HL.out.1; omega, HL.out.2⟩, Lib.hid (HT.out.other (below_drewN (ab1 wr _) nq)), HO2, Below.next hb (below_drewN (ab1 wr _) nq)⟩
            case measure => have := hk1.out; simp [intOf]; omega
          · have hopt : x.opt = false := by simpa using hopt
            have HU2 := Lib.hid (HU.out hopt)
            rw [hopt] at x6
            clear HO HU hopt
            go_wp2_with fail
            go_quiet (fail)
            go_wp2_with fail
            exact bodyPost_ret (v := .tuple #[.slice none 0 0, .bool false]) (by simp [results, Try.results78, go_sem]) rfl (MtP.none_ HU2.out (Below.next hb (below_drewN (ab1 wr _) nq)))
      · have dm : decide (m < q) = false := decide_eq_false hmlt
        have hne : ∀ hm : l.length < f.length, (f[l.length]'hm).1 ≠ x.num := fun hm => by rw [HM.out, HQ.out] at hm; exact absurd hm hmlt
        have HO := Lib.hid (HOpt.out hne)
        have HU := Lib.hid (HMust.out hne)
        clear HHit HMust HOpt hne
        by_cases hopt : x.opt = true
        · have HO2 := Lib.hid (HO.out hopt)
          rw [hopt] at x6
          clear HO HU hopt
          go_wp2_with fail
          go_quiet (fail)
          go_wp2_with fail
          go_roundw
          case rel => exact ⟨k + 1, l, hk1.out, by go_num, Lib.hid ⟨by have := HL.out.1; omega, HL.out.2⟩, Lib.hid (HT.out.other (below_drewN (ab1 wr _) nq)), HO2, Below.next hb (below_drewN (ab1 wr _) nq)⟩
          case measure => have := hk1.out; simp [intOf]; omega
        · have hopt : x.opt = false := by simpa using hopt
          have HU2 := Lib.hid (HU.out hopt)
          rw [hopt] at x6
          clear HO HU hopt
          go_wp2_with fail
          go_quiet (fail)
          go_wp2_with fail
          exact bodyPost_ret (v := .tuple #[.slice none 0 0, .bool false]) (by simp [results, Try.results78, go_sem]) rfl (MtP.none_ HU2.out (Below.next hb (below_drewN (ab1 wr _) nq)))
    · obtain rfl : k = n := by omega
      have HI2 : Hid (mt d f = (mt (d.drop d.length) (f.drop l.length)).map ((l.map Prod.fst) ++ ·)) := Lib.hid (by rw [HN.out]; exact HI.out)
      clear HI
      by_cases hmlt : m = q
      · have HS := Lib.hid (mt_stop HI2.out (by rw [HM.out, HQ.out]; exact hmlt))
        clear HI2
        subst hmlt
        have q1 : ((m : Int) == (m : Int)) = true := by simp
        go_wp2_with fail
        exact bodyPost_ret (v := .tuple #[.slice C m cc, .bool true]) (by simp [results, Try.results78, go_sem]) rfl (MtP.some_ HS.out hb HT.out)
      · have HS := Lib.hid (mt_over HI2.out (by rw [HM.out, HQ.out]; omega))
        have q1 : ((m : Int) == (q : Int)) = false := by rw [beq_eq_false_iff_ne]; omega
        clear HI2
        go_wp2_with fail
        exact bodyPost_ret (v := .tuple #[.slice C m cc, .bool false]) (by simp [results, Try.results78, go_sem]) rfl (MtP.none_ HS.out hb)
end Go.Proofs.Ytlebppjldoodgaa
/-
  The developers' check of a list. No conditions beyond those that each names.
-/
namespace Go.Proofs.Ytlebppjldoodgaa
open Go.RowKit
theorem Bx.put7 {w : World} {b : Nat} {x y z u p q r : Value} (h : Bx w b [x, y, z, u, p, q, r]) (x' y' z' u' p' q' r' : Value) : Bx (((((((w.setCell ⟨b, 0, none⟩ x').setCell ⟨b, 1, none⟩ y').setCell ⟨b, 2, none⟩ z').setCell ⟨b, 3, none⟩ u').setCell ⟨b, 4, none⟩ p').setCell ⟨b, 5, none⟩ q').setCell ⟨b, 6, none⟩ r') b [x', y', z', u', p', q', r'] := ((((((h.put1 0 x').put1 1 y').put1 2 z').put1 3 u').put1 4 p').put1 5 q').put1 6 r'
theorem gb_set7 (w : World) (b : Nat) (x y z u p q r : Value) : w.grownBy (((((((w.setCell ⟨b, 0, none⟩ x).setCell ⟨b, 1, none⟩ y).setCell ⟨b, 2, none⟩ z).setCell ⟨b, 3, none⟩ u).setCell ⟨b, 4, none⟩ p).setCell ⟨b, 5, none⟩ q).setCell ⟨b, 6, none⟩ r) (some b) := (gb_set6 w b x y z u p q).trans (gb_set1 _ ⟨b, 6, none⟩ r)
/-- What the check of a value of at most a size answers. -/
def CkI (S : Sch) (N : Nat) : Prop := ∀ (t : Ty) (v : Vl) (A : Option Addr) (c : Nat) (A2 : Option Addr) (c2 : Nat) (G : Option Addr) (g : Nat) (u : Value) (w : World), SizeOf.sizeOf v < N → lok t → vok v → Sc w S A A2 → Rw TyA 4 w t.elem G → VlV w v u →
  Calls Try.prog 28 #[.agg #[.int .i64 S.ver, .slice A S.enums.length c, .slice A2 S.structs.length c2, .int .i64 t.kind, .int .i64 t.size, .string (bs t.name), .slice G t.elem.length g], u] w (Ib (.int .i64 (vck S t v)) w)
set_option maxRecDepth 100000 in
set_option maxHeartbeats 8000000 in
theorem list_any (S : Sch) (N : Nat) (hI : CkI S N) (A : Option Addr) (c : Nat) (A2 : Option Addr) (c2 : Nat) (k s : Int) (nm : ByteArray) (t : Ty) (G : Option Addr) (g : Nat) (q n : Int) (st : ByteArray) (l : List Vl) (B : Option Addr) (b : Nat) (B2 : Option Addr) (b1 b2 : Nat) (w : World)
    (hl : ∀ i (h : i < l.length), SizeOf.sizeOf (l[i]'h) < N ∧ vok (l[i]'h)) (hlen : l.length ≤ 9223372036854775807) (hu : lok t) (hS : Sc w S A A2) (hG : Rw TyA 4 w [t] G) (hR : Rw VlA 5 w l B) :
    Calls Try.prog 58 #[.agg #[.int .i64 S.ver, .slice A S.enums.length c, .slice A2 S.structs.length c2, .int .i64 k, .int .i64 s, .string nm, .slice G 1 g], .agg #[.int .i64 q, .int .i64 n, .string st, .slice B l.length b, .slice B2 b1 b2]] w
      (Ib (.int .i64 (if (l.length : Int) ≤ s then vck.vckl S t l else 3)) w) := by
  obtain ⟨m, hm⟩ : ∃ m, l.length = m := ⟨_, rfl⟩
  have HM := Lib.hid hm
  obtain ⟨r, hr⟩ : ∃ r, (if (l.length : Int) ≤ s then vck.vckl S t l else 3) = r := ⟨_, rfl⟩
  rw [hr]
  rw [hm] at hr hlen ⊢
  clear hm
  have D1 := (Bx.new7 w 55 (.int .i64 S.ver) (.slice A S.enums.length c) (.slice A2 S.structs.length c2) (.int .i64 k) (.int .i64 s) (.string nm) (.slice G 1 g)).next (ab1 _ (Obj.cells #[.int .i64 q, .int .i64 n, .string st, .slice B m b, .slice B2 b1 b2] 25))
  have D2 := Bx.new5 (w.alloc (Obj.cells #[.int .i64 S.ver, .slice A S.enums.length c, .slice A2 S.structs.length c2, .int .i64 k, .int .i64 s, .string nm, .slice G 1 g] 55)) 25 (.int .i64 q) (.int .i64 n) (.string st) (.slice B m b) (.slice B2 b1 b2)
  rw [show (w.alloc (Obj.cells #[.int .i64 S.ver, .slice A S.enums.length c, .slice A2 S.structs.length c2, .int .i64 k, .int .i64 s, .string nm, .slice G 1 g] 55)).heap.size = w.heap.size + 1 by simp] at D2
  have hab := ab2 w (Obj.cells #[.int .i64 S.ver, .slice A S.enums.length c, .slice A2 S.structs.length c2, .int .i64 k, .int .i64 s, .string nm, .slice G 1 g] 55) (Obj.cells #[.int .i64 q, .int .i64 n, .string st, .slice B m b, .slice B2 b1 b2] 25)
  by_cases h1 : (m : Int) ≤ s
  case neg =>
    rw [if_neg h1] at hr
    subst hr
    have d1 : decide (s < (m : Int)) = true := decide_eq_true (by omega)
    clear hI D1 D2 h1
    go_enter Try.func58, Try.ntmps58
    go_wp2_with fail
    go_ret
    exact ⟨rfl, hab⟩
  case pos =>
  rw [if_pos h1] at hr
  have d1 : decide (s < (m : Int)) = false := decide_eq_false (by omega)
  have HR := Lib.hid hr
  clear hr h1
  obtain ⟨a, rfl, hA⟩ := hG.get (i := 0) (by show 0 < 1; omega)
  rw [Nat.zero_mul] at hA
  have hA : TyA w t a := hA
  obtain ⟨e0, e1, e2, A4, c4, e3, hVe⟩ := hA.cells
  have hblk : a.block < w.heap.size := blk_lt e0
  go_enter Try.func58, Try.ntmps58
  go_upto_region 3 with (fail)
  generalize (w.alloc (Obj.cells #[.int .i64 S.ver, .slice A S.enums.length c, .slice A2 S.structs.length c2, .int .i64 k, .int .i64 s, .string nm, .slice (some a) 1 g] 55)).alloc (Obj.cells #[.int .i64 q, .int .i64 n, .string st, .slice B m b, .slice B2 b1 b2] 25) = w1 at *
  have i0 := D1.c 0 rfl
  have i1 := D1.c 1 rfl
  have i2 := D1.c 2 rfl
  have i6 := D1.c 6 rfl
  replace e0 := cell_next hab e0
  replace e1 := cell_next hab e1
  replace e2 := cell_next hab e2
  replace e3 := cell_next hab e3
  refine wp_region_box (by kernel_rfl) (FF [(2, Fact.at_ w1 (.pointer (some ⟨w.heap.size, 0, none⟩))), (16, Fact.at_ w1 (.pointer (some ⟨w.heap.size, 0, none⟩))), (17, Fact.at_ w1 (.agg #[.int .i64 S.ver, .slice A S.enums.length c, .slice A2 S.structs.length c2])), (18, Fact.at_ w1 (.pointer (some ⟨w.heap.size, 3, none⟩))), (19, Fact.at_ w1 (.pointer (some ⟨w.heap.size, 6, none⟩))), (20, Fact.at_ w1 (.slice (some a) 1 g)), (21, Fact.at_ w1 (.pointer (some a))), (22, Fact.at_ w1 (.agg #[.int .i64 t.kind, .int .i64 t.size, .string (bs t.name), .slice A4 t.elem.length c4])), (23, Fact.at_ w1 (.agg #[.int .i64 S.ver, .slice A S.enums.length c, .slice A2 S.structs.length c2, .int .i64 t.kind, .int .i64 t.size, .string (bs t.name), .slice A4 t.elem.length c4]))]) [2] 38 5 9 23 [.int .i64 0, .slice none 0 0, .slice none 0 0, .int .i64 0, .int .i64 0, .string ⟨#[]⟩, .slice none 0 0] [.int .i64 S.ver, .slice A S.enums.length c, .slice A2 S.structs.length c2, .int .i64 t.kind, .int .i64 t.size, .string (bs t.name), .slice A4 t.elem.length c4] [16, 17, 18, 19, 20, 21, 22, 23, 5] rfl (by kernel_rfl) (by kernel_rfl) (by kernel_rfl) (by kernel_rfl) (FF_soft (fcs ⟨at_soft w1 (.pointer (some ⟨w.heap.size, 0, none⟩)), fcs ⟨at_soft w1 (.pointer (some ⟨w.heap.size, 0, none⟩)), fcs ⟨at_soft w1 (.agg #[.int .i64 S.ver, .slice A S.enums.length c, .slice A2 S.structs.length c2]), fcs ⟨at_soft w1 (.pointer (some ⟨w.heap.size, 3, none⟩)), fcs ⟨at_soft w1 (.pointer (some ⟨w.heap.size, 6, none⟩)), fcs ⟨at_soft w1 (.slice (some a) 1 g), fcs ⟨at_soft w1 (.pointer (some a)), fcs ⟨at_soft w1 (.agg #[.int .i64 t.kind, .int .i64 t.size, .string (bs t.name), .slice A4 t.elem.length c4]), fcs ⟨at_soft w1 (.agg #[.int .i64 S.ver, .slice A S.enums.length c, .slice A2 S.structs.length c2, .int .i64 t.kind, .int .i64 t.size, .string (bs t.name), .slice A4 t.elem.length c4]), fnl⟩⟩⟩⟩⟩⟩⟩⟩⟩)) ?_ ?_ ?_
  · intro t9 ht9
    simp only [List.mem_cons, List.not_mem_nil, or_false] at ht9
    rcases ht9 with rfl
    · exact ⟨rfl, Below.refl _ _⟩
  · refine fcs ⟨.plain (at1 2 16 (.pointer (some ⟨w.heap.size, 0, none⟩)) (.pointer (some ⟨w.heap.size, 0, none⟩)) rfl (by first | exact .inl rfl | exact .inr ⟨_, _, _, rfl, rfl, by kernel_rfl, by decide, rfl⟩) (by kernel_rfl) rfl rfl (fun a9 W9 hb9 h9 => by simp [execOp, h9] <;> go_simp)) (by decide) (by decide), ?_⟩
    refine fcs ⟨.plain (at1 16 17 (.pointer (some ⟨w.heap.size, 0, none⟩)) (.agg #[.int .i64 S.ver, .slice A S.enums.length c, .slice A2 S.structs.length c2]) rfl (by first | exact .inl rfl | exact .inr ⟨_, _, _, rfl, rfl, by kernel_rfl, by decide, rfl⟩) (by kernel_rfl) rfl rfl (fun a9 W9 hb9 h9 => by have g0 := cell_next hb9 i0; have g1 := cell_next hb9 i1; have g2 := cell_next hb9 i2; simp [execOp, h9] <;> go_simp)) (by decide) (by decide), ?_⟩
    refine fcs ⟨.plain (at1 2 18 (.pointer (some ⟨w.heap.size, 0, none⟩)) (.pointer (some ⟨w.heap.size, 3, none⟩)) rfl (by first | exact .inl rfl | exact .inr ⟨_, _, _, rfl, rfl, by kernel_rfl, by decide, rfl⟩) (by kernel_rfl) rfl rfl (fun a9 W9 hb9 h9 => by simp [execOp, h9] <;> go_simp)) (by decide) (by decide), ?_⟩
    refine fcs ⟨.plain (at1 18 19 (.pointer (some ⟨w.heap.size, 3, none⟩)) (.pointer (some ⟨w.heap.size, 6, none⟩)) rfl (by first | exact .inl rfl | exact .inr ⟨_, _, _, rfl, rfl, by kernel_rfl, by decide, rfl⟩) (by kernel_rfl) rfl rfl (fun a9 W9 hb9 h9 => by simp [execOp, h9] <;> go_simp)) (by decide) (by decide), ?_⟩
    refine fcs ⟨.plain (at1 19 20 (.pointer (some ⟨w.heap.size, 6, none⟩)) (.slice (some a) 1 g) rfl (by first | exact .inl rfl | exact .inr ⟨_, _, _, rfl, rfl, by kernel_rfl, by decide, rfl⟩) (by kernel_rfl) rfl rfl (fun a9 W9 hb9 h9 => by have g0 := cell_next hb9 i6; simp [execOp, h9] <;> go_simp)) (by decide) (by decide), ?_⟩
    refine fcs ⟨.plain (at1 20 21 (.slice (some a) 1 g) (.pointer (some a)) rfl (by first | exact .inl rfl | exact .inr ⟨_, _, _, rfl, rfl, by kernel_rfl, by decide, rfl⟩) (by kernel_rfl) rfl rfl (fun a9 W9 hb9 h9 => by simp [execOp, h9] <;> go_simp)) (by decide) (by decide), ?_⟩
    refine fcs ⟨.plain (at1 21 22 (.pointer (some a)) (.agg #[.int .i64 t.kind, .int .i64 t.size, .string (bs t.name), .slice A4 t.elem.length c4]) rfl (by first | exact .inl rfl | exact .inr ⟨_, _, _, rfl, rfl, by kernel_rfl, by decide, rfl⟩) (by kernel_rfl) rfl rfl (fun a9 W9 hb9 h9 => by have g0 := cell_next hb9 e0; have g1 := cell_next hb9 e1; have g2 := cell_next hb9 e2; have g3 := cell_next hb9 e3; simp [execOp, h9] <;> go_simp)) (by decide) (by decide), ?_⟩
    refine fcs ⟨.plain (at2 17 22 23 (.agg #[.int .i64 S.ver, .slice A S.enums.length c, .slice A2 S.structs.length c2]) (.agg #[.int .i64 t.kind, .int .i64 t.size, .string (bs t.name), .slice A4 t.elem.length c4]) (.agg #[.int .i64 S.ver, .slice A S.enums.length c, .slice A2 S.structs.length c2, .int .i64 t.kind, .int .i64 t.size, .string (bs t.name), .slice A4 t.elem.length c4]) rfl (by first | exact .inl rfl | exact .inr ⟨_, _, _, rfl, rfl, by kernel_rfl, by decide, rfl⟩) (by kernel_rfl) (by kernel_rfl) rfl rfl rfl (fun a9 W9 hb9 h9 h8 => by simp [execOp, h9, h8] <;> go_simp)) (by decide) (by decide), ?_⟩
    refine fcs ⟨.alloc rfl rfl rfl (by decide) (fun a9 w9 => ⟨_, by simp [execOp, ptr0] <;> go_simp, ab1 _ (Obj.cells #[.int .i64 0, .slice none 0 0, .slice none 0 0, .int .i64 0, .int .i64 0, .string ⟨#[]⟩, .slice none 0 0] 55), Bx.new7 _ _ _ _ _ _ _ _ _⟩), ?_⟩
    refine fcs ⟨.store rfl rfl rfl (by kernel_rfl) (by kernel_rfl) (fun a9 w9 b9 h9 hx9 hf9 => (by have k1 : a9.eval (.tmp 5) = .pointer (some ⟨b9, 0, none⟩) := h9; have k2 : a9.eval (.tmp 23) = .agg #[.int .i64 S.ver, .slice A S.enums.length c, .slice A2 S.structs.length c2, .int .i64 t.kind, .int .i64 t.size, .string (bs t.name), .slice A4 t.elem.length c4] := hf9.1; have g0 := hx9.c 0 rfl; have g1 := hx9.c 1 rfl; have g2 := hx9.c 2 rfl; have g3 := hx9.c 3 rfl; have g4 := hx9.c 4 rfl; have g5 := hx9.c 5 rfl; have g6 := hx9.c 6 rfl; have f0 := hx9.f 0 rfl; have f1 := hx9.f 1 rfl; have f2 := hx9.f 2 rfl; have f3 := hx9.f 3 rfl; have f4 := hx9.f 4 rfl; have f5 := hx9.f 5 rfl; have f6 := hx9.f 6 rfl; have l9 := hx9.lt; exact ⟨_, by simp [execOp, k1, k2] <;> go_simp, gb_set7 _ _ _ _ _ _ _ _ _, hx9.put7 _ _ _ _ _ _ _⟩)), ?_⟩
    exact fnl
  rintro vv wv hvv ⟨gx, hgx, hgl, hX⟩ hbv
  unfold ptr0 at hgx
  simp only [lay, List.foldl_cons, List.foldl_nil, List.setIfInBounds_toArray, List.set_cons_succ, List.set_cons_zero, hgx]
  replace D2 := D2.next hbv
  have hbw := Below.next hab hbv
  have HX := Lib.hid (hX : Bx wv gx [.int .i64 S.ver, .slice A S.enums.length c, .slice A2 S.structs.length c2, .int .i64 t.kind, .int .i64 t.size, .string (bs t.name), .slice A4 t.elem.length c4])
  have HG := Lib.hid (show Rw TyA 4 w t.elem A4 from hVe)
  clear i0 i1 i2 i6 e0 e1 e2 e3 hX hvv D1
  have y3 := D2.c 3 rfl
  have H0 : Hid (vck.vckl S t (l.take 0) = 0) := Lib.hid (by rw [List.take_zero, vck.vckl])
  go_wp2_with fail
  go_loopw [27] (fun i wr => ∃ kk : Nat, kk ≤ m ∧ i = .int .i64 (kk : Int) ∧ Hid (vck.vckl S t (l.take kk) = 0) ∧ Bx wr gx [.int .i64 S.ver, .slice A S.enums.length c, .slice A2 S.structs.length c2, .int .i64 t.kind, .int .i64 t.size, .string (bs t.name), .slice A4 t.elem.length c4] ∧ Below w.heap.size w wr) (fun i _ => m - (intOf i).toNat)
  case atStart => exact ⟨0, by omega, rfl, H0, HX.out, hbw⟩
  case round =>
    obtain ⟨kk, hkk, rfl, HK, hX, hb⟩ := hrel
    clear H0 HX hbw
    by_cases hlt : kk < m
    · have hk1 := Lib.hid hlt
      have hkl : kk < l.length := by rw [HM.out]; exact hlt
      obtain ⟨b', rfl, hE⟩ := hR.get hkl
      obtain ⟨s', x0, x1, x2, x3, x4, hrd⟩ := (VlA.next hb _ _ hE).sb
      have hblk' : (b'.add (kk * 5)).block < wr.heap.size := blk_lt x0
      obtain ⟨hs1, hs2⟩ := hl kk hkl
      have cR := fun W (h : Below wr.heap.size wr W) => hI t (l[kk]'hkl) A c A2 c2 A4 c4 (.agg (encV (l[kk]'hkl) s').toArray) W hs1 hu hs2 (Sc.next (Below.next hb h) hS) (HG.out.next fun x p => TyA.next (Below.next hb h) x p) (rdV_iff.2 ⟨s', rfl, hrd.next h⟩)
      have HN := Lib.hid (fun (h0 : vck S t (l[kk]'hkl) = 0) => show vck.vckl S t (l.take (kk + 1)) = 0 by rw [vckl_at hkl HK.out]; exact h0)
      have HE := Lib.hid (fun (h0 : vck S t (l[kk]'hkl) ≠ 0) => show vck S t (l[kk]'hkl) = r by rw [← HR.out, vckl_stop hkl HK.out h0])
      obtain ⟨z, hz⟩ : ∃ z, vck S t (l[kk]'hkl) = z := ⟨_, rfl⟩
      rw [hz] at cR HN HE
      generalize l[kk]'hkl = x at *
      replace cR : ∀ W, Below wr.heap.size wr W → Calls Try.prog 28 #[.agg #[.int .i64 S.ver, .slice A S.enums.length c, .slice A2 S.structs.length c2, .int .i64 t.kind, .int .i64 t.size, .string (bs t.name), .slice A4 t.elem.length c4], .agg #[.int .i64 x.kind, .int .i64 x.n, .string (bs x.s), .slice s'.A x.l.length s'.c, .slice s'.B x.f.length s'.d]] W (Ib (.int .i64 z) W) := cR
      have X2 := hX.next (ab1 wr (Obj.cells #[.int .i64 x.kind, .int .i64 x.n, .string (bs x.s), .slice s'.A x.l.length s'.c, .slice s'.B x.f.length s'.d] 25))
      have j0 := X2.c 0 rfl
      have j1 := X2.c 1 rfl
      have j2 := X2.c 2 rfl
      have j3 := X2.c 3 rfl
      have j4 := X2.c 4 rfl
      have j5 := X2.c 5 rfl
      have j6 := X2.c 6 rfl
      clear HK hz hrd hE hX hs1 hs2
      by_cases h0 : z = 0
      · have HN2 := Lib.hid (HN.out h0)
        subst h0
        clear HN HE
        go_wp2_with fail
        refine (cR _ (ab1 _ _)).mono ?_
        rintro e w2 ⟨rfl, hb2⟩
        go_wp2_with fail
        go_roundw
        case rel => exact ⟨kk + 1, hk1.out, by go_num, HN2, X2.next hb2, Below.next hb (Below.next (ab1 _ _) hb2)⟩
        case measure => have := hk1.out; simp [intOf]; omega
      · have HE2 := HE.out h0
        have qz : (z != 0) = true := by simpa using h0
        subst HE2
        clear HN HE h0
        go_wp2_with fail
        refine (cR _ (ab1 _ _)).mono ?_
        rintro e w2 ⟨rfl, hb2⟩
        go_wp2_with fail
        go_ret
        exact ⟨rfl, Below.next hb (Below.next (ab1 _ _) hb2)⟩
    · obtain rfl : kk = m := by omega
      have hr0 : r = 0 := by rw [← HR.out, ← HK.out, ← HM.out, List.take_length]
      subst hr0
      clear HK
      go_wp2_with fail
      go_ret
      exact ⟨rfl, hb⟩
end Go.Proofs.Ytlebppjldoodgaa
/-
  The reference's shaped. No conditions beyond those that each names.
-/
namespace Go.Proofs.Ytlebppjldoodgaa
open Go.RowKit
/-- A field out of an elder world. -/
def PF (W0 : World) (f : Fd) (v : Value) : Prop := ∃ A c, v = .agg #[.int .i64 f.num, .string (bs f.name), .int .i64 f.type.kind, .int .i64 f.type.size, .string (bs f.type.name), .slice A f.type.elem.length c, .bool f.opt] ∧ Rw TyA 4 W0 f.type.elem A
def FdE (W0 : World) (o : Option Fd) (w : World) (e : Ending) (w' : World) : Prop := ∃ A c, e = .returned (.tuple #[.agg #[.int .i64 (o.getD fd0).num, .string (bs (o.getD fd0).name), .int .i64 (o.getD fd0).type.kind, .int .i64 (o.getD fd0).type.size, .string (bs (o.getD fd0).type.name), .slice A (o.getD fd0).type.elem.length c, .bool (o.getD fd0).opt], .bool o.isSome]) ∧ Rw TyA 4 W0 (o.getD fd0).type.elem A ∧ Below w.heap.size w w'
theorem FdE.none_ {W0 : World} {o : Option Fd} {w w' : World} (h : o = none) (hb : Below w.heap.size w w') : FdE W0 o w (.returned (.tuple #[.agg #[.int .i64 0, .string ⟨#[]⟩, .int .i64 0, .int .i64 0, .string ⟨#[]⟩, .slice none 0 0, .bool false], .bool false])) w' := by
  subst h; exact ⟨none, 0, rfl, .inl rfl, hb⟩
theorem FdE.some_ {W0 : World} {o : Option Fd} {w w' : World} {f : Fd} {A : Option Addr} {c : Nat} (h : o = some f) (hR : Rw TyA 4 W0 f.type.elem A) (hb : Below w.heap.size w w') : FdE W0 o w (.returned (.tuple #[.agg #[.int .i64 f.num, .string (bs f.name), .int .i64 f.type.kind, .int .i64 f.type.size, .string (bs f.type.name), .slice A f.type.elem.length c, .bool f.opt], .bool true])) w' := by
  subst h; exact ⟨A, c, rfl, hR, hb⟩
set_option maxRecDepth 100000 in
set_option maxHeartbeats 2000000 in
theorem r9field_el (t : St) (nb : Int) (v : Value) (W0 w : World) (hb0 : Below W0.heap.size W0 w) (hv : StV W0 t v) (hn : t.fields.length ≤ 1000) :
    Calls Try.prog 64 #[v, .int .i64 nb] w (FdE W0 (fst_ Fd.num t.fields nb) w) := by
  obtain ⟨A, c, rfl, hS⟩ := hv
  obtain ⟨n, hn2⟩ : ∃ n, t.fields.length = n := ⟨_, rfl⟩
  have HN := Lib.hid hn2
  rw [hn2] at hn ⊢
  clear hn2
  go_enter Try.func64, Try.ntmps64
  go_wp2_with fail
  go_loop [6] (fun i => ∃ k : Nat, k ≤ n ∧ i = .int .i64 (k : Int) ∧ Hid (∀ j (hj : j < t.fields.length), j < k → (t.fields[j]'hj).num ≠ nb)) (fun i => n - (intOf i).toNat)
  case atStart => exact ⟨0, by omega, rfl, Lib.hid fun j _ h => by omega⟩
  case round =>
    obtain ⟨k, hk, rfl, hI⟩ := hrel
    by_cases hlt : k < n
    · obtain ⟨a, rfl, hA⟩ := hS.get (i := k) (by rw [HN.out]; exact hlt)
      obtain ⟨h0, h1, h2, h3, h4, ⟨A3, c3, h5, hR⟩, h6⟩ := hA
      replace h0 := cell_next hb0 h0
      replace h1 := cell_next hb0 h1
      replace h2 := cell_next hb0 h2
      replace h3 := cell_next hb0 h3
      replace h4 := cell_next hb0 h4
      replace h5 := cell_next hb0 h5
      replace h6 := cell_next hb0 h6
      have hblk : (a.add (k * 7)).block < w.heap.size := blk_lt h0
      have hx : (t.fields[k]'(by rw [HN.out]; exact hlt)).num = nb → fst_ Fd.num t.fields nb = some (t.fields[k]'(by rw [HN.out]; exact hlt)) := fun e => fst_at (by rw [HN.out]; exact hlt) hI.out e
      have hy : (t.fields[k]'(by rw [HN.out]; exact hlt)).num ≠ nb → ∀ j (hj : j < t.fields.length), j < k + 1 → (t.fields[j]'hj).num ≠ nb := fun e j hj hjk => by
        by_cases hjk2 : j < k
        · exact hI.out j hj hjk2
        · obtain rfl : j = k := by omega
          exact e
      generalize t.fields[k]'(by rw [HN.out]; exact hlt) = f at *
      by_cases e : f.num = nb
      · have E := Lib.hid (hx e)
        clear hx hy hI
        subst e
        go_wp2_with fail
        exact bodyPost_ret (v := .tuple #[.agg #[.int .i64 f.num, .string (bs f.name), .int .i64 f.type.kind, .int .i64 f.type.size, .string (bs f.type.name), .slice A3 f.type.elem.length c3, .bool f.opt], .bool true]) (by simp [results, Try.results64, go_sem]) rfl (.some_ E.out hR (ab2 _ _ _))
      · have E := Lib.hid (hy e)
        have q1 : (f.num == nb) = false := by simpa using e
        clear hx hy hI
        go_wp2_with fail
        go_round
        case rel => exact ⟨k + 1, by omega, by go_num, E⟩
        case measure => simp [intOf]; omega
    · obtain rfl : k = n := by omega
      have E := Lib.hid (show fst_ Fd.num t.fields nb = none from fst_end fun j hj => hI.out j hj (by rw [← HN.out]; exact hj))
      clear hI
      go_wp2_with fail
      exact bodyPost_ret (v := .tuple #[.agg #[.int .i64 0, .string ⟨#[]⟩, .int .i64 0, .int .i64 0, .string ⟨#[]⟩, .slice none 0 0, .bool false], .bool false]) (by simp [results, Try.results64, go_sem]) rfl (.none_ E.out (ab2 _ _ _))
theorem asc_adj : ∀ {f : List (Int × Vl)}, (∀ i (h : i + 1 < f.length), (f[i]'(by omega)).1 < (f[i + 1]'h).1) → ascF f = true
  | [], _ => rfl
  | [_], _ => rfl
  | a :: b :: l, h => by
    rw [ascF, Bool.and_eq_true, decide_eq_true_eq]
    exact ⟨h 0 (by simp), asc_adj (f := b :: l) fun i hi => h (i + 1) (by simpa using hi)⟩
theorem shp_none {d : List Fd} {f : List (Int × Vl)} {i : Nat} (h : i < f.length) (hn : fst_ Fd.num d (f[i]'h).1 = none) : shp d f = false := by
  rw [Bool.eq_false_iff]
  intro hc
  obtain ⟨-, h2, -⟩ := shp_iff.1 hc
  obtain ⟨y, hy, e⟩ := h2 _ (List.getElem_mem h)
  exact fst_none.1 hn y hy e
theorem shp_ord {d : List Fd} {f : List (Int × Vl)} {i : Nat} (h : i + 1 < f.length) (hle : (f[i + 1]'h).1 ≤ (f[i]'(by omega)).1) : shp d f = false := by
  rw [Bool.eq_false_iff]
  intro hc
  obtain ⟨h1, -, -⟩ := shp_iff.1 hc
  have := List.pairwise_iff_getElem.1 h1 i (i + 1) (by omega) h (by omega)
  omega
theorem shp_miss {d : List Fd} {f : List (Int × Vl)} {j : Nat} (h : j < d.length) (ho : (d[j]'h).opt = false) (hn : fvl (.mk 6 0 [] [] f) (d[j]'h).num = none) : shp d f = false := by
  rw [Bool.eq_false_iff]
  intro hc
  obtain ⟨-, -, h3⟩ := shp_iff.1 hc
  rcases h3 _ (List.getElem_mem h) with k | ⟨e, he, k⟩
  · rw [ho] at k; cases k
  · unfold fvl at hn
    rw [if_pos (by rfl), Option.map_eq_none_iff, List.find?_eq_none] at hn
    exact hn e he (by simpa using k)
theorem fvl_has {f : List (Int × Vl)} {z : Int} (h : (fvl (.mk 6 0 [] [] f) z).isSome = true) : ∃ e ∈ f, e.1 = z := by
  unfold fvl at h
  rw [if_pos (by rfl), Option.isSome_map] at h
  obtain ⟨x, hx⟩ := Option.isSome_iff_exists.1 h
  exact ⟨x, List.mem_of_find?_eq_some hx, by simpa using List.find?_some hx⟩
theorem shp_yes {d : List Fd} {f : List (Int × Vl)} (h1 : ∀ i (h : i < f.length), (fst_ Fd.num d (f[i]'h).1).isSome = true) (h2 : ∀ i (h : i + 1 < f.length), (f[i]'(by omega)).1 < (f[i + 1]'h).1)
    (h3 : ∀ j (h : j < d.length), (d[j]'h).opt = true ∨ (fvl (.mk 6 0 [] [] f) (d[j]'h).num).isSome = true) : shp d f = true := by
  rw [shp_iff]
  refine ⟨ascF_iff.1 (asc_adj h2), fun e he => ?_, fun y hy => ?_⟩
  · obtain ⟨i, hi, rfl⟩ := List.getElem_of_mem he
    obtain ⟨y, hy⟩ := Option.isSome_iff_exists.1 (h1 i hi)
    obtain ⟨k1, k2⟩ := fst_mem hy
    exact ⟨y, k1, k2⟩
  · obtain ⟨j, hj, rfl⟩ := List.getElem_of_mem hy
    rcases h3 j hj with k | k
    · exact .inl k
    · exact .inr (fvl_has k)
set_option maxRecDepth 100000 in
set_option maxHeartbeats 8000000 in
theorem shaped_any (d : St) (A : Option Addr) (c : Nat) (nn : Int) (st : List UInt8) (B1 : Option Addr) (b1 b2 : Nat) (l : List Vl) (f : List (Int × Vl)) (B : Option Addr) (b : Nat) (w : World)
    (hD : Rw FdA 7 w d.fields A) (hn : d.fields.length ≤ 1000) (hF : Rw EtA 6 w f B) (hm : f.length ≤ 9223372036854775807) (hL : Rw VlA 5 w l B1) (hl : l.length = b1) :
    Calls Try.prog 83 #[.agg #[.string (bs d.name), .slice A d.fields.length c], .agg #[.int .i64 6, .int .i64 nn, .string (bs st), .slice B1 b1 b2, .slice B f.length b]] w (Ib (.bool (shp d.fields f)) w) := by
  have cF0 := fun nb W h => r9field_el d nb (.agg #[.string (bs d.name), .slice A d.fields.length c]) w W h ⟨A, c, rfl, hD⟩ hn
  have cG0 := fun z W h => refField_any (.mk 6 nn st l f) z (.agg #[.int .i64 6, .int .i64 nn, .string (bs st), .slice B1 l.length b2, .slice B f.length b]) w W h hm ⟨B1, b2, B, b, rfl, hL, hF⟩
  have hgv : ∀ z, fvl (.mk 6 nn st l f) z = fvl (.mk 6 0 [] [] f) z := fun z => rfl
  simp only [hgv] at cG0
  rw [hl] at cG0
  clear hgv hl hL
  unfold FdE at cF0
  unfold FdQ at cG0
  obtain ⟨n, hN⟩ : ∃ n, d.fields.length = n := ⟨_, rfl⟩
  obtain ⟨m, hM⟩ : ∃ m, f.length = m := ⟨_, rfl⟩
  have HN := Lib.hid hN
  have HM := Lib.hid hM
  rw [hN] at cF0 hn ⊢
  rw [hM] at cG0 hm ⊢
  clear hN hM
  obtain ⟨r, hr⟩ : ∃ r, shp d.fields f = r := ⟨_, rfl⟩
  have HR := Lib.hid hr
  rw [hr]
  clear hr
  have D1 := (Bx.new2 w 64 (.string (bs d.name)) (.slice A n c)).next (ab1 _ (Obj.cells #[.int .i64 6, .int .i64 nn, .string (bs st), .slice B1 b1 b2, .slice B m b] 25))
  have D2 := Bx.new5 (w.alloc (Obj.cells #[.string (bs d.name), .slice A n c] 64)) 25 (.int .i64 6) (.int .i64 nn) (.string (bs st)) (.slice B1 b1 b2) (.slice B m b)
  rw [show (w.alloc (Obj.cells #[.string (bs d.name), .slice A n c] 64)).heap.size = w.heap.size + 1 by simp] at D2
  have hab := ab2 w (Obj.cells #[.string (bs d.name), .slice A n c] 64) (Obj.cells #[.int .i64 6, .int .i64 nn, .string (bs st), .slice B1 b1 b2, .slice B m b] 25)
  have H0 : Hid ((∀ i (h : i < f.length), i < 0 → (fst_ Fd.num d.fields (f[i]'h).1).isSome = true) ∧ ∀ i (h : i + 1 < f.length), i + 1 < 0 → (f[i]'(by omega)).1 < (f[i + 1]'h).1) := Lib.hid ⟨fun i h h2 => by omega, fun i h h2 => by omega⟩
  go_enter Try.func83, Try.ntmps83
  go_wp2_with fail
  go_loopw [5] (fun i wr => ∃ k : Nat, k ≤ m ∧ i = .int .i64 (k : Int) ∧ Hid ((∀ i (h : i < f.length), i < k → (fst_ Fd.num d.fields (f[i]'h).1).isSome = true) ∧ ∀ i (h : i + 1 < f.length), i + 1 < k → (f[i]'(by omega)).1 < (f[i + 1]'h).1) ∧ Bx wr w.heap.size [.string (bs d.name), .slice A n c] ∧ Bx wr (w.heap.size + 1) [.int .i64 6, .int .i64 nn, .string (bs st), .slice B1 b1 b2, .slice B m b] ∧ Below w.heap.size w wr) (fun i _ => m - (intOf i).toNat)
  case atStart => exact ⟨0, by omega, rfl, H0, D1, D2, hab⟩
  case round =>
    clear D1 D2 hab H0
    obtain ⟨k, hk, rfl, HK, D1, D2, hb⟩ := hrel
    have i0 := D1.c 0 rfl
    have i1 := D1.c 1 rfl
    have j4 := D2.c 4 rfl
    by_cases hlt : k < m
    · have hk1 := Lib.hid hlt
      have hkl : k < f.length := by rw [HM.out]; exact hlt
      obtain ⟨a, rfl, hE⟩ := hF.get hkl
      have y0 : wr.cell? (a.add (k * 6)) = some (.int .i64 (f[k]'hkl).1) := cell_next hb hE.1
      have hblk : (a.add (k * 6)).block < wr.heap.size := blk_lt y0
      have cF := fun W (h : Below wr.heap.size wr W) => cF0 (f[k]'hkl).1 W (Below.next hb h)
      have HNo := Lib.hid (fun (h : fst_ Fd.num d.fields (f[k]'hkl).1 = none) => show shp d.fields f = false from shp_none hkl h)
      obtain ⟨y, hy⟩ : ∃ y, (f[k]'hkl).1 = y := ⟨_, rfl⟩
      have HY := Lib.hid hy
      rw [hy] at y0 cF HNo
      obtain ⟨f8, hf8⟩ : ∃ f8, (fst_ Fd.num d.fields y).getD fd0 = f8 := ⟨_, rfl⟩
      obtain ⟨o, ho⟩ : ∃ o, (fst_ Fd.num d.fields y).isSome = o := ⟨_, rfl⟩
      rw [hf8, ho] at cF
      have HO := Lib.hid ho
      clear hy hf8 ho hE
      go_upto_region 4 with (fail)
      have hlt := hk1.out
      refine wp_region_boxd (by kernel_rfl) (FF [(2, Fact.at_ wr (.pointer (some ⟨w.heap.size, 0, none⟩))), (3, Fact.at_ wr (.pointer (some ⟨w.heap.size + 1, 0, none⟩))), (5, Fact.at_ wr (.int .i64 (k : Int))), (19, Fact.at_ wr (.agg #[.string (bs d.name), .slice A n c])), (20, Fact.at_ wr (.pointer (some ⟨w.heap.size + 1, 4, none⟩))), (21, Fact.at_ wr (.slice (some a) m b)), (22, Fact.at_ wr (.int .i64 (k : Int))), (23, Fact.at_ wr (.pointer (some (a.add (k * 6))))), (24, Fact.at_ wr (.pointer (some (a.add (k * 6))))), (25, Fact.at_ wr (.int .i64 y)), (26, FP (T2 (PF w f8) o) wr), (18, FP (T2 (PF w f8) o) wr), (27, FP (PF w f8) wr), (28, Fact.at_ wr (.bool o)), (7, Fact.at_ wr (.bool o))]) [2, 3, 5] 80 6 12 27 [.int .i64 0, .string ⟨#[]⟩, .int .i64 0, .int .i64 0, .string ⟨#[]⟩, .slice none 0 0, .bool false] (fun vs => ∃ A8 c8, vs = [.int .i64 f8.num, .string (bs f8.name), .int .i64 f8.type.kind, .int .i64 f8.type.size, .string (bs f8.type.name), .slice A8 f8.type.elem.length c8, .bool f8.opt] ∧ Rw TyA 4 w f8.type.elem A8) [19, 20, 21, 22, 23, 24, 25, 26, 18, 27, 28, 7, 6] rfl (by kernel_rfl) (by kernel_rfl) (by kernel_rfl) (by kernel_rfl) (FF_soft (fcs ⟨at_soft wr (.pointer (some ⟨w.heap.size, 0, none⟩)), fcs ⟨at_soft wr (.pointer (some ⟨w.heap.size + 1, 0, none⟩)), fcs ⟨at_soft wr (.int .i64 (k : Int)), fcs ⟨at_soft wr (.agg #[.string (bs d.name), .slice A n c]), fcs ⟨at_soft wr (.pointer (some ⟨w.heap.size + 1, 4, none⟩)), fcs ⟨at_soft wr (.slice (some a) m b), fcs ⟨at_soft wr (.int .i64 (k : Int)), fcs ⟨at_soft wr (.pointer (some (a.add (k * 6)))), fcs ⟨at_soft wr (.pointer (some (a.add (k * 6)))), fcs ⟨at_soft wr (.int .i64 y), fcs ⟨fp_soft (T2 (PF w f8) o) wr, fcs ⟨fp_soft (T2 (PF w f8) o) wr, fcs ⟨fp_soft (PF w f8) wr, fcs ⟨at_soft wr (.bool o), fcs ⟨at_soft wr (.bool o), fnl⟩⟩⟩⟩⟩⟩⟩⟩⟩⟩⟩⟩⟩⟩⟩)) ?_ ?_ ?_
      · intro t9 ht9
        simp only [List.mem_cons, List.not_mem_nil, or_false] at ht9
        rcases ht9 with rfl | rfl | rfl
        · exact ⟨rfl, Below.refl _ _⟩
        · exact ⟨rfl, Below.refl _ _⟩
        · exact ⟨rfl, Below.refl _ _⟩
      · refine fcs ⟨.plain (at1 2 19 (.pointer (some ⟨w.heap.size, 0, none⟩)) (.agg #[.string (bs d.name), .slice A n c]) rfl (by first | exact .inl rfl | exact .inr ⟨_, _, _, rfl, rfl, by kernel_rfl, by decide, rfl⟩) (by kernel_rfl) rfl rfl (fun a9 W9 hb9 h9 => by have g0 := cell_next hb9 i0; have g1 := cell_next hb9 i1; simp [execOp, h9] <;> go_simp)) (by decide) (by decide), ?_⟩
        refine fcs ⟨.plain (at1 3 20 (.pointer (some ⟨w.heap.size + 1, 0, none⟩)) (.pointer (some ⟨w.heap.size + 1, 4, none⟩)) rfl (by first | exact .inl rfl | exact .inr ⟨_, _, _, rfl, rfl, by kernel_rfl, by decide, rfl⟩) (by kernel_rfl) rfl rfl (fun a9 W9 hb9 h9 => by simp [execOp, h9] <;> go_simp)) (by decide) (by decide), ?_⟩
        refine fcs ⟨.plain (at1 20 21 (.pointer (some ⟨w.heap.size + 1, 4, none⟩)) (.slice (some a) m b) rfl (by first | exact .inl rfl | exact .inr ⟨_, _, _, rfl, rfl, by kernel_rfl, by decide, rfl⟩) (by kernel_rfl) rfl rfl (fun a9 W9 hb9 h9 => by have g0 := cell_next hb9 j4; simp [execOp, h9] <;> go_simp)) (by decide) (by decide), ?_⟩
        refine fcs ⟨.plain (atcopy 5 22 (.int .i64 (k : Int)) (.inl rfl) rfl (by first | exact .inl rfl | exact .inr ⟨_, _, _, rfl, rfl, by kernel_rfl, by decide, rfl⟩) (by kernel_rfl) rfl rfl) (by decide) (by decide), ?_⟩
        refine fcs ⟨.plain (at2 21 22 23 (.slice (some a) m b) (.int .i64 (k : Int)) (.pointer (some (a.add (k * 6)))) rfl (by first | exact .inl rfl | exact .inr ⟨_, _, _, rfl, rfl, by kernel_rfl, by decide, rfl⟩) (by kernel_rfl) (by kernel_rfl) rfl rfl rfl (fun a9 W9 hb9 h9 h8 => by simp [execOp, h9, h8] <;> go_simp)) (by decide) (by decide), ?_⟩
        refine fcs ⟨.plain (at1 23 24 (.pointer (some (a.add (k * 6)))) (.pointer (some (a.add (k * 6)))) rfl (by first | exact .inl rfl | exact .inr ⟨_, _, _, rfl, rfl, by kernel_rfl, by decide, rfl⟩) (by kernel_rfl) rfl rfl (fun a9 W9 hb9 h9 => by simp [execOp, h9] <;> go_simp)) (by decide) (by decide), ?_⟩
        refine fcs ⟨.plain (at1 24 25 (.pointer (some (a.add (k * 6)))) (.int .i64 y) rfl (by first | exact .inl rfl | exact .inr ⟨_, _, _, rfl, rfl, by kernel_rfl, by decide, rfl⟩) (by kernel_rfl) rfl rfl (fun a9 W9 hb9 h9 => by have g0 := cell_next hb9 y0; simp [execOp, h9] <;> go_simp)) (by decide) (by decide), ?_⟩
        refine fcs ⟨.plain (at_enter (W0 := wr) (by first | exact .inl rfl | exact .inr ⟨_, _, _, rfl, rfl, by kernel_rfl, by decide, rfl⟩) (fun a9 W9 hf9 => by have p19 := hf9 19 (by kernel_rfl); have q19 : a9.tmps.getD 19 undef = (.agg #[.string (bs d.name), .slice A n c]) := p19.1; have p25 := hf9 25 (by kernel_rfl); have q25 : a9.tmps.getD 25 undef = (.int .i64 y) := p25.1; have hb9 := p19.2; exact ⟨64, #[(.agg #[.string (bs d.name), .slice A n c]), (.int .i64 y)], by rw [← q19, ← q25]; simpa [execOp, resolve, Act.eval] using run_invoke (by kernel_rfl) _ W9, (cF W9 p19.2).mono fun e w' ⟨A8, c8, e1, h8r, e3⟩ => ⟨_, e1, e3, fun s hs => by injection hs with hs; subst hs; exact ⟨⟨_, ⟨A8, c8, rfl, h8r⟩, rfl⟩, upG hb9 e3⟩⟩⟩)) (by decide) (by decide), ?_⟩
        refine fcs ⟨.plain (ob_copy 26 18 (.inl rfl) rfl (.inl rfl) (by kernel_rfl) rfl) (by decide) (by decide), ?_⟩
        refine fcs ⟨.plain (atP 18 27 (T2 (PF w f8) o) (PF w f8) rfl (by first | exact .inl rfl | exact .inr ⟨_, _, _, rfl, rfl, by kernel_rfl, by decide, rfl⟩) (by kernel_rfl) rfl rfl (fun a9 W9 u9 h8 h9 => by obtain ⟨x8, hx8, rfl⟩ := h8; exact ⟨x8, by simp [execOp, h9] <;> go_simp, hx8⟩)) (by decide) (by decide), ?_⟩
        refine fcs ⟨.plain (atP 18 28 (T2 (PF w f8) o) (· = .bool o) rfl (by first | exact .inl rfl | exact .inr ⟨_, _, _, rfl, rfl, by kernel_rfl, by decide, rfl⟩) (by kernel_rfl) rfl rfl (fun a9 W9 u9 h8 h9 => by obtain ⟨x8, hx8, rfl⟩ := h8; exact ⟨_, by simp [execOp, h9] <;> go_simp, rfl⟩)) (by decide) (by decide), ?_⟩
        refine fcs ⟨.alloc rfl rfl rfl (by decide) (fun a9 w9 => ⟨_, by simp [execOp, ptr0] <;> go_simp, ab1 _ (Obj.cells #[.int .i64 0, .string ⟨#[]⟩, .int .i64 0, .int .i64 0, .string ⟨#[]⟩, .slice none 0 0, .bool false] 61), Bx.new7 _ _ _ _ _ _ _ _ _⟩), ?_⟩
        refine fcs ⟨.store rfl rfl rfl (by kernel_rfl) (by kernel_rfl) (fun a9 w9 b9 h9 hx9 hf9 => (by have k1 : a9.eval (.tmp 6) = .pointer (some ⟨b9, 0, none⟩) := h9; obtain ⟨A8, c8, e8, h8r⟩ : PF w f8 (a9.tmps.getD 27 undef) := hf9.1; have k2 : a9.eval (.tmp 27) = _ := e8; have g0 := hx9.c 0 rfl; have f0 := hx9.f 0 rfl; have g1 := hx9.c 1 rfl; have f1 := hx9.f 1 rfl; have g2 := hx9.c 2 rfl; have f2 := hx9.f 2 rfl; have g3 := hx9.c 3 rfl; have f3 := hx9.f 3 rfl; have g4 := hx9.c 4 rfl; have f4 := hx9.f 4 rfl; have g5 := hx9.c 5 rfl; have f5 := hx9.f 5 rfl; have g6 := hx9.c 6 rfl; have f6 := hx9.f 6 rfl; have l9 := hx9.lt; exact ⟨_, by simp [execOp, k1, k2] <;> go_simp, gb_set7 _ _ (.int .i64 f8.num) (.string (bs f8.name)) (.int .i64 f8.type.kind) (.int .i64 f8.type.size) (.string (bs f8.type.name)) (.slice A8 f8.type.elem.length c8) (.bool f8.opt), ⟨[.int .i64 f8.num, .string (bs f8.name), .int .i64 f8.type.kind, .int .i64 f8.type.size, .string (bs f8.type.name), .slice A8 f8.type.elem.length c8, .bool f8.opt], ⟨A8, c8, rfl, h8r⟩, hx9.put7 (.int .i64 f8.num) (.string (bs f8.name)) (.int .i64 f8.type.kind) (.int .i64 f8.type.size) (.string (bs f8.type.name)) (.slice A8 f8.type.elem.length c8) (.bool f8.opt)⟩⟩)), ?_⟩
        refine fcs ⟨.plain (atcopy 28 7 (.bool o) (.inr rfl) rfl (by first | exact .inl rfl | exact .inr ⟨_, _, _, rfl, rfl, by kernel_rfl, by decide, rfl⟩) (by kernel_rfl) rfl rfl) (by decide) (by decide), ?_⟩
        exact fnl
      rintro vv wv hvv ⟨gx, hgx, hgl, hX⟩ hbv
      have hv7 : vv 7 = (.bool o) := (hvv 7 (by decide)).1
      unfold ptr0 at hgx
      simp only [lay, List.foldl_cons, List.foldl_nil, List.setIfInBounds_toArray, List.set_cons_succ, List.set_cons_zero, hgx, hv7]
      clear hX hgl hvv i0 i1 j4 hlt cF
      replace D1 := D1.next hbv
      replace D2 := D2.next hbv
      replace y0 := cell_next hbv y0
      replace hblk : (a.add (k * 6)).block < wv.heap.size := blk_lt y0
      have hb3 := Below.next hb hbv
      have j4 := D2.c 4 rfl
      cases o
      case false =>
        have hr : r = false := by
          rw [← HR.out]
          refine HNo.out ?_
          have := HO.out
          cases hq : fst_ Fd.num d.fields y with
          | none => rfl
          | some _ => rw [hq] at this; cases this
        subst hr
        clear HNo
        go_wp2_with fail
        go_quiet (fail)
        go_wp2_with fail
        go_ret
        exact ⟨rfl, below_drewN hb3 _⟩
      case true =>
      have hlt := hk1.out
      by_cases h0 : 0 < k
      case neg =>
        have d0 : decide (0 < k) = false := decide_eq_false h0
        have HK2 : Hid ((∀ i (h : i < f.length), i < k + 1 → (fst_ Fd.num d.fields (f[i]'h).1).isSome = true) ∧ ∀ i (h : i + 1 < f.length), i + 1 < k + 1 → (f[i]'(by omega)).1 < (f[i + 1]'h).1) := Lib.hid ⟨fun i h h2 => by
            obtain rfl : i = k := by omega
            rw [HY.out]; exact HO.out, fun i h h2 => by omega⟩
        clear HK HNo h0
        go_wp2_with fail
        go_quiet (fail)
        go_wp2_with fail
        go_roundw
        case rel => exact ⟨k + 1, hk1.out, by go_num, HK2, D1.next (below_drewN (Below.refl _ _) _), D2.next (below_drewN (Below.refl _ _) _), below_drewN hb3 _⟩
        case measure => have := hk1.out; simp [intOf]; omega
      case pos =>
      obtain ⟨k', hk'⟩ : ∃ k', k = k' + 1 := ⟨k - 1, by omega⟩
      have d0 : decide (0 < k) = true := decide_eq_true h0
      have e0 : IntKind.i64.wrap ((k : Int) - 1) = (k' : Int) := by
        have : wrap64 ((k : Int) - 1) = (k' : Int) := by unfold wrap64; omega
        rw [intK]; exact this
      have hk'm : k' < m := by omega
      have hk'l : k' < f.length := by omega
      obtain ⟨a', ha', hE2⟩ := hF.get hk'l
      injection ha' with ha'
      subst ha'
      have z0 : wv.cell? (a.add (k' * 6)) = some (.int .i64 (f[k']'hk'l).1) := cell_next hb3 hE2.1
      have hblk3 : (a.add (k' * 6)).block < wv.heap.size := blk_lt z0
      have HOrd := Lib.hid (fun (h : y ≤ (f[k']'hk'l).1) => show shp d.fields f = false from shp_ord (i := k') (by omega) (by subst hk'; rw [HY.out]; exact h))
      have HK3 : Hid ((f[k']'hk'l).1 < y → ((∀ i (h : i < f.length), i < k + 1 → (fst_ Fd.num d.fields (f[i]'h).1).isSome = true) ∧ ∀ i (h : i + 1 < f.length), i + 1 < k + 1 → (f[i]'(by omega)).1 < (f[i + 1]'h).1)) := Lib.hid fun hlt2 => ⟨fun i h h2 => by
          by_cases h3 : i < k
          · exact HK.out.1 i h h3
          · obtain rfl : i = k := by omega
            rw [HY.out]; exact HO.out, fun i h h2 => by
          by_cases h3 : i + 1 < k
          · exact HK.out.2 i h h3
          · obtain rfl : i = k' := by omega
            subst hk'
            rw [HY.out]; exact hlt2⟩
      generalize (f[k']'hk'l).1 = z at *
      have HKK := Lib.hid hk'
      clear HK HNo hE2 hk' h0
      by_cases hle : y ≤ z
      · have d1 : decide (y ≤ z) = true := decide_eq_true hle
        have hr : r = false := by rw [← HR.out]; exact HOrd.out hle
        subst hr
        clear HOrd HK3 hle
        go_wp2_with fail
        go_quiet (fail)
        go_wp2_with fail
        go_ret
        exact ⟨rfl, below_drewN hb3 _⟩
      · have d1 : decide (y ≤ z) = false := decide_eq_false hle
        have HK4 := Lib.hid (HK3.out (by omega))
        clear HOrd HK3 hle
        go_wp2_with fail
        go_quiet (fail)
        go_wp2_with fail
        go_roundw
        case rel => exact ⟨k + 1, hk1.out, by go_num, HK4, D1.next (below_drewN (Below.refl _ _) _), D2.next (below_drewN (Below.refl _ _) _), below_drewN hb3 _⟩
        case measure => have := hk1.out; simp [intOf]; omega
    · obtain rfl : k = m := by omega
      have HF1 := Lib.hid (show (∀ i (h : i < f.length), (fst_ Fd.num d.fields (f[i]'h).1).isSome = true) ∧ ∀ i (h : i + 1 < f.length), (f[i]'(by omega)).1 < (f[i + 1]'h).1 from ⟨fun i h => HK.out.1 i h (by rw [← HM.out]; exact h), fun i h => HK.out.2 i h (by rw [← HM.out]; exact h)⟩)
      have H0 : Hid (∀ j (h : j < d.fields.length), j < 0 → (d.fields[j]'h).opt = true ∨ (fvl (.mk 6 0 [] [] f) (d.fields[j]'h).num).isSome = true) := Lib.hid fun j h h2 => by omega
      clear HK cF0
      go_wp2_with fail
      rename World => wo
      go_loopw [8] (fun i wr => ∃ j : Nat, j ≤ n ∧ i = .int .i64 (j : Int) ∧ Hid (∀ t (h : t < d.fields.length), t < j → (d.fields[t]'h).opt = true ∨ (fvl (.mk 6 0 [] [] f) (d.fields[t]'h).num).isSome = true) ∧ Bx wr w.heap.size [.string (bs d.name), .slice A n c] ∧ Bx wr (w.heap.size + 1) [.int .i64 6, .int .i64 nn, .string (bs st), .slice B1 b1 b2, .slice B k b] ∧ Below w.heap.size w wr) (fun i _ => n - (intOf i).toNat)
      case atStart => exact ⟨0, by omega, rfl, H0, D1, D2, hb⟩
      case round =>
        clear D1 D2 hb H0 i0 i1 j4
        obtain ⟨j, hj, rfl, HJ, D1, D2, hb⟩ := hrel
        have i0 := D1.c 0 rfl
        have i1 := D1.c 1 rfl
        have j0 := D2.c 0 rfl
        have j1 := D2.c 1 rfl
        have j2 := D2.c 2 rfl
        have j3 := D2.c 3 rfl
        have j4 := D2.c 4 rfl
        by_cases hlt2 : j < n
        · have hk1 := Lib.hid hlt2
          have hjl : j < d.fields.length := by rw [HN.out]; exact hlt2
          obtain ⟨a2, rfl, hE⟩ := hD.get hjl
          have y0 : wr.cell? (a2.add (j * 7)) = some (.int .i64 (d.fields[j]'hjl).num) := cell_next hb hE.1
          have y6 : wr.cell? (nx1 (a2.add (j * 7)) 6) = some (.bool (d.fields[j]'hjl).opt) := cell_next hb hE.2.2.2.2.2.2
          have hblk : (a2.add (j * 7)).block < wr.heap.size := blk_lt y0
          have cG := fun W (h : Below wr.heap.size wr W) => cG0 (d.fields[j]'hjl).num W (Below.next hb h)
          have HMi := Lib.hid (fun (ho : (d.fields[j]'hjl).opt = false) (h : fvl (.mk 6 0 [] [] f) (d.fields[j]'hjl).num = none) => show shp d.fields f = false from shp_miss hjl ho h)
          have HNx := Lib.hid (fun (h : (d.fields[j]'hjl).opt = true ∨ (fvl (.mk 6 0 [] [] f) (d.fields[j]'hjl).num).isSome = true) => show ∀ t (h : t < d.fields.length), t < j + 1 → (d.fields[t]'h).opt = true ∨ (fvl (.mk 6 0 [] [] f) (d.fields[t]'h).num).isSome = true from fun t ht h2 => by
            by_cases h3 : t < j
            · exact HJ.out t ht h3
            · obtain rfl : t = j := by omega
              exact h)
          generalize (d.fields[j]'hjl).num = y at *
          generalize (d.fields[j]'hjl).opt = q at *
          obtain ⟨x8, hx8⟩ : ∃ x8, (fvl (.mk 6 0 [] [] f) y).getD vl0 = x8 := ⟨_, rfl⟩
          obtain ⟨o, ho⟩ : ∃ o, (fvl (.mk 6 0 [] [] f) y).isSome = o := ⟨_, rfl⟩
          rw [hx8, ho] at cG
          have HO := Lib.hid ho
          clear hx8 ho hE HJ
          go_upto_region 10 with (fail)
          have hlt := hk1.out
          refine wp_region_boxd (by kernel_rfl) (FF [(2, Fact.at_ wr (.pointer (some ⟨w.heap.size, 0, none⟩))), (3, Fact.at_ wr (.pointer (some ⟨w.heap.size + 1, 0, none⟩))), (8, Fact.at_ wr (.int .i64 (j : Int))), (59, Fact.at_ wr (.agg #[.int .i64 6, .int .i64 nn, .string (bs st), .slice B1 b1 b2, .slice B k b])), (60, Fact.at_ wr (.pointer (some ⟨w.heap.size, 1, none⟩))), (61, Fact.at_ wr (.slice (some a2) n c)), (62, Fact.at_ wr (.int .i64 (j : Int))), (63, Fact.at_ wr (.pointer (some (a2.add (j * 7))))), (64, Fact.at_ wr (.pointer (some (a2.add (j * 7))))), (65, Fact.at_ wr (.int .i64 y)), (66, FP (T2 (PV w x8) o) wr), (58, FP (T2 (PV w x8) o) wr), (67, FP (PV w x8) wr), (68, Fact.at_ wr (.bool o)), (10, Fact.at_ wr (.bool o))]) [2, 3, 8] 80 9 12 67 [.int .i64 0, .int .i64 0, .string ⟨#[]⟩, .slice none 0 0, .slice none 0 0] (fun vs => ∃ s8 : Sb, vs = [.int .i64 x8.kind, .int .i64 x8.n, .string (bs x8.s), .slice s8.A x8.l.length s8.c, .slice s8.B x8.f.length s8.d] ∧ RdV w x8 s8) [59, 60, 61, 62, 63, 64, 65, 66, 58, 67, 68, 10, 9] rfl (by kernel_rfl) (by kernel_rfl) (by kernel_rfl) (by kernel_rfl) (FF_soft (fcs ⟨at_soft wr (.pointer (some ⟨w.heap.size, 0, none⟩)), fcs ⟨at_soft wr (.pointer (some ⟨w.heap.size + 1, 0, none⟩)), fcs ⟨at_soft wr (.int .i64 (j : Int)), fcs ⟨at_soft wr (.agg #[.int .i64 6, .int .i64 nn, .string (bs st), .slice B1 b1 b2, .slice B k b]), fcs ⟨at_soft wr (.pointer (some ⟨w.heap.size, 1, none⟩)), fcs ⟨at_soft wr (.slice (some a2) n c), fcs ⟨at_soft wr (.int .i64 (j : Int)), fcs ⟨at_soft wr (.pointer (some (a2.add (j * 7)))), fcs ⟨at_soft wr (.pointer (some (a2.add (j * 7)))), fcs ⟨at_soft wr (.int .i64 y), fcs ⟨fp_soft (T2 (PV w x8) o) wr, fcs ⟨fp_soft (T2 (PV w x8) o) wr, fcs ⟨fp_soft (PV w x8) wr, fcs ⟨at_soft wr (.bool o), fcs ⟨at_soft wr (.bool o), fnl⟩⟩⟩⟩⟩⟩⟩⟩⟩⟩⟩⟩⟩⟩⟩)) ?_ ?_ ?_
          · intro t9 ht9
            simp only [List.mem_cons, List.not_mem_nil, or_false] at ht9
            rcases ht9 with rfl | rfl | rfl
            · exact ⟨rfl, Below.refl _ _⟩
            · exact ⟨rfl, Below.refl _ _⟩
            · exact ⟨rfl, Below.refl _ _⟩
          · refine fcs ⟨.plain (at1 3 59 (.pointer (some ⟨w.heap.size + 1, 0, none⟩)) (.agg #[.int .i64 6, .int .i64 nn, .string (bs st), .slice B1 b1 b2, .slice B k b]) rfl (by first | exact .inl rfl | exact .inr ⟨_, _, _, rfl, rfl, by kernel_rfl, by decide, rfl⟩) (by kernel_rfl) rfl rfl (fun a9 W9 hb9 h9 => by have g0 := cell_next hb9 j0; have g1 := cell_next hb9 j1; have g2 := cell_next hb9 j2; have g3 := cell_next hb9 j3; have g4 := cell_next hb9 j4; simp [execOp, h9] <;> go_simp)) (by decide) (by decide), ?_⟩
            refine fcs ⟨.plain (at1 2 60 (.pointer (some ⟨w.heap.size, 0, none⟩)) (.pointer (some ⟨w.heap.size, 1, none⟩)) rfl (by first | exact .inl rfl | exact .inr ⟨_, _, _, rfl, rfl, by kernel_rfl, by decide, rfl⟩) (by kernel_rfl) rfl rfl (fun a9 W9 hb9 h9 => by simp [execOp, h9] <;> go_simp)) (by decide) (by decide), ?_⟩
            refine fcs ⟨.plain (at1 60 61 (.pointer (some ⟨w.heap.size, 1, none⟩)) (.slice (some a2) n c) rfl (by first | exact .inl rfl | exact .inr ⟨_, _, _, rfl, rfl, by kernel_rfl, by decide, rfl⟩) (by kernel_rfl) rfl rfl (fun a9 W9 hb9 h9 => by have g0 := cell_next hb9 i1; simp [execOp, h9] <;> go_simp)) (by decide) (by decide), ?_⟩
            refine fcs ⟨.plain (atcopy 8 62 (.int .i64 (j : Int)) (.inl rfl) rfl (by first | exact .inl rfl | exact .inr ⟨_, _, _, rfl, rfl, by kernel_rfl, by decide, rfl⟩) (by kernel_rfl) rfl rfl) (by decide) (by decide), ?_⟩
            refine fcs ⟨.plain (at2 61 62 63 (.slice (some a2) n c) (.int .i64 (j : Int)) (.pointer (some (a2.add (j * 7)))) rfl (by first | exact .inl rfl | exact .inr ⟨_, _, _, rfl, rfl, by kernel_rfl, by decide, rfl⟩) (by kernel_rfl) (by kernel_rfl) rfl rfl rfl (fun a9 W9 hb9 h9 h8 => by simp [execOp, h9, h8] <;> go_simp)) (by decide) (by decide), ?_⟩
            refine fcs ⟨.plain (at1 63 64 (.pointer (some (a2.add (j * 7)))) (.pointer (some (a2.add (j * 7)))) rfl (by first | exact .inl rfl | exact .inr ⟨_, _, _, rfl, rfl, by kernel_rfl, by decide, rfl⟩) (by kernel_rfl) rfl rfl (fun a9 W9 hb9 h9 => by simp [execOp, h9] <;> go_simp)) (by decide) (by decide), ?_⟩
            refine fcs ⟨.plain (at1 64 65 (.pointer (some (a2.add (j * 7)))) (.int .i64 y) rfl (by first | exact .inl rfl | exact .inr ⟨_, _, _, rfl, rfl, by kernel_rfl, by decide, rfl⟩) (by kernel_rfl) rfl rfl (fun a9 W9 hb9 h9 => by have g0 := cell_next hb9 y0; simp [execOp, h9] <;> go_simp)) (by decide) (by decide), ?_⟩
            refine fcs ⟨.plain (at_enter (W0 := wr) (by first | exact .inl rfl | exact .inr ⟨_, _, _, rfl, rfl, by kernel_rfl, by decide, rfl⟩) (fun a9 W9 hf9 => by have p59 := hf9 59 (by kernel_rfl); have q59 : a9.tmps.getD 59 undef = (.agg #[.int .i64 6, .int .i64 nn, .string (bs st), .slice B1 b1 b2, .slice B k b]) := p59.1; have p65 := hf9 65 (by kernel_rfl); have q65 : a9.tmps.getD 65 undef = (.int .i64 y) := p65.1; have hb9 := p59.2; exact ⟨19, #[(.agg #[.int .i64 6, .int .i64 nn, .string (bs st), .slice B1 b1 b2, .slice B k b]), (.int .i64 y)], by rw [← q59, ← q65]; simpa [execOp, resolve, Act.eval] using run_invoke (by kernel_rfl) _ W9, (cG W9 p59.2).mono fun e w' ⟨s8, e1, h8r, e3⟩ => ⟨_, e1, e3, fun s hs => by injection hs with hs; subst hs; exact ⟨⟨_, ⟨s8, rfl, h8r⟩, rfl⟩, upG hb9 e3⟩⟩⟩)) (by decide) (by decide), ?_⟩
            refine fcs ⟨.plain (ob_copy 66 58 (.inl rfl) rfl (.inl rfl) (by kernel_rfl) rfl) (by decide) (by decide), ?_⟩
            refine fcs ⟨.plain (atP 58 67 (T2 (PV w x8) o) (PV w x8) rfl (by first | exact .inl rfl | exact .inr ⟨_, _, _, rfl, rfl, by kernel_rfl, by decide, rfl⟩) (by kernel_rfl) rfl rfl (fun a9 W9 u9 h8 h9 => by obtain ⟨x8, hx8, rfl⟩ := h8; exact ⟨x8, by simp [execOp, h9] <;> go_simp, hx8⟩)) (by decide) (by decide), ?_⟩
            refine fcs ⟨.plain (atP 58 68 (T2 (PV w x8) o) (· = .bool o) rfl (by first | exact .inl rfl | exact .inr ⟨_, _, _, rfl, rfl, by kernel_rfl, by decide, rfl⟩) (by kernel_rfl) rfl rfl (fun a9 W9 u9 h8 h9 => by obtain ⟨x8, hx8, rfl⟩ := h8; exact ⟨_, by simp [execOp, h9] <;> go_simp, rfl⟩)) (by decide) (by decide), ?_⟩
            refine fcs ⟨.alloc rfl rfl rfl (by decide) (fun a9 w9 => ⟨_, by simp [execOp, ptr0] <;> go_simp, ab1 _ (Obj.cells #[.int .i64 0, .int .i64 0, .string ⟨#[]⟩, .slice none 0 0, .slice none 0 0] 25), Bx.new5 _ _ _ _ _ _ _⟩), ?_⟩
            refine fcs ⟨.store rfl rfl rfl (by kernel_rfl) (by kernel_rfl) (fun a9 w9 b9 h9 hx9 hf9 => (by have k1 : a9.eval (.tmp 9) = .pointer (some ⟨b9, 0, none⟩) := h9; obtain ⟨s8, e8, h8r⟩ : PV w x8 (a9.tmps.getD 67 undef) := hf9.1; have k2 : a9.eval (.tmp 67) = _ := e8; have g0 := hx9.c 0 rfl; have f0 := hx9.f 0 rfl; have g1 := hx9.c 1 rfl; have f1 := hx9.f 1 rfl; have g2 := hx9.c 2 rfl; have f2 := hx9.f 2 rfl; have g3 := hx9.c 3 rfl; have f3 := hx9.f 3 rfl; have g4 := hx9.c 4 rfl; have f4 := hx9.f 4 rfl; have l9 := hx9.lt; exact ⟨_, by simp [execOp, k1, k2] <;> go_simp, gb_set5 _ _ (.int .i64 x8.kind) (.int .i64 x8.n) (.string (bs x8.s)) (.slice s8.A x8.l.length s8.c) (.slice s8.B x8.f.length s8.d), ⟨[.int .i64 x8.kind, .int .i64 x8.n, .string (bs x8.s), .slice s8.A x8.l.length s8.c, .slice s8.B x8.f.length s8.d], ⟨s8, rfl, h8r⟩, hx9.put5 (.int .i64 x8.kind) (.int .i64 x8.n) (.string (bs x8.s)) (.slice s8.A x8.l.length s8.c) (.slice s8.B x8.f.length s8.d)⟩⟩)), ?_⟩
            refine fcs ⟨.plain (atcopy 68 10 (.bool o) (.inr rfl) rfl (by first | exact .inl rfl | exact .inr ⟨_, _, _, rfl, rfl, by kernel_rfl, by decide, rfl⟩) (by kernel_rfl) rfl rfl) (by decide) (by decide), ?_⟩
            exact fnl
          rintro vv wv hvv ⟨gx, hgx, hgl, hX⟩ hbv
          have hv10 : vv 10 = (.bool o) := (hvv 10 (by decide)).1
          unfold ptr0 at hgx
          simp only [lay, List.foldl_cons, List.foldl_nil, List.setIfInBounds_toArray, List.set_cons_succ, List.set_cons_zero, hgx, hv10]
          clear hX hgl hvv i0 i1 j0 j1 j2 j3 j4 hlt cG
          replace D1 := D1.next hbv
          replace D2 := D2.next hbv
          replace y6 := cell_next hbv y6
          replace y0 := cell_next hbv y0
          replace hblk : (a2.add (j * 7)).block < wv.heap.size := blk_lt y0
          have hb3 := Below.next hb hbv
          have i1 := D1.c 1 rfl
          have hlt := hk1.out
          cases o
          case true =>
            have HN2 := Lib.hid (HNx.out (.inr HO.out))
            clear HNx HMi
            go_wp2_with fail
            go_roundw
            case rel => exact ⟨j + 1, hk1.out, by go_num, HN2, D1, D2, hb3⟩
            case measure => have := hk1.out; simp [intOf]; omega
          case false =>
          cases q
          case true =>
            have HN2 := Lib.hid (HNx.out (.inl rfl))
            clear HNx HMi
            go_wp2_with fail
            go_roundw
            case rel => exact ⟨j + 1, hk1.out, by go_num, HN2, D1, D2, hb3⟩
            case measure => have := hk1.out; simp [intOf]; omega
          case false =>
            have hr : r = false := by
              rw [← HR.out]
              refine HMi.out rfl ?_
              have := HO.out
              cases hq : fvl (.mk 6 0 [] [] f) y with
              | none => rfl
              | some _ => rw [hq] at this; cases this
            subst hr
            clear HNx HMi
            go_wp2_with fail
            go_ret
            exact ⟨rfl, hb3⟩
        · obtain rfl : j = n := by omega
          have hr : r = true := by
            rw [← HR.out]
            exact shp_yes HF1.out.1 HF1.out.2 fun t ht => HJ.out t ht (by rw [← HN.out]; exact ht)
          subst hr
          clear HJ
          go_wp2_with fail
          go_ret
          exact ⟨rfl, hb⟩
end Go.Proofs.Ytlebppjldoodgaa
