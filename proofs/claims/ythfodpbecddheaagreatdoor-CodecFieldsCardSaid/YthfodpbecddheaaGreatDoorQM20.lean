/-
  Entries met with fields one after the other: what it gives is what the specification says, where the fields' numbers ascend; rows of types that a call owns. No conditions beyond those that each names.
-/
import Derived.Test.YthfodpbecddheaaGreatDoorQM18
import Derived.Deep.QuietTactic
import Derived.BigQuiet
import Derived.Test.YthfodpbecddheaaGreatDoorQM10
import Derived.Test.YthfodpbecddheaaGreatDoorQM19
namespace Go.Proofs.YthfodpbecddheaaGreatDoor
open Go.RowKit Go.Maps
/-- The types of entries that are met with fields in their order. -/
def mt : List Fd → List (Int × Vl) → Option (List Ty)
  | [], [] => some []
  | [], _ :: _ => none
  | x :: d, [] => if x.opt then mt d [] else none
  | x :: d, e :: f => if e.1 = x.num then (mt d f).map (x.type :: ·) else if x.opt then mt d (e :: f) else none
def AscD (d : List Fd) : Prop := d.Pairwise fun a b => a.num < b.num
def Shp (d : List Fd) (f : List (Int × Vl)) : Prop := (f.Pairwise fun a b => a.1 < b.1) ∧ (∀ e ∈ f, ∃ y ∈ d, y.num = e.1) ∧ ∀ y ∈ d, y.opt = true ∨ ∃ e ∈ f, e.1 = y.num
theorem ascF_iff : ∀ {f : List (Int × Vl)}, ascF f = true ↔ f.Pairwise fun a b => a.1 < b.1
  | [] => by simp [ascF]
  | [a] => by simp [ascF]
  | a :: b :: l => by
    rw [ascF, Bool.and_eq_true, decide_eq_true_eq, ascF_iff (f := b :: l), List.pairwise_cons (a := a)]
    constructor
    · rintro ⟨h1, h2⟩
      refine ⟨fun x hx => ?_, h2⟩
      rcases List.mem_cons.1 hx with rfl | hx
      · exact h1
      · exact Int.lt_trans h1 ((List.pairwise_cons.1 h2).1 x hx)
    · rintro ⟨h1, h2⟩
      exact ⟨h1 b (by simp), h2⟩
theorem shp_iff {d : List Fd} {f : List (Int × Vl)} : shp d f = true ↔ Shp d f := by
  unfold shp Shp
  rw [Bool.and_eq_true, Bool.and_eq_true, ascF_iff, List.all_eq_true, List.all_eq_true]
  refine and_congr_right fun _ => and_congr ?_ ?_
  · refine forall_congr' fun e => imp_congr_right fun _ => ?_
    constructor
    · intro h
      obtain ⟨y, hy⟩ := Option.isSome_iff_exists.1 h
      obtain ⟨h1, h2⟩ := fst_mem hy
      exact ⟨y, h1, h2⟩
    · rintro ⟨y, h1, h2⟩
      cases h : fst_ Fd.num d e.1 with
      | some _ => rfl
      | none => exact absurd h2 (fst_none.1 h y h1)
  · refine forall_congr' fun y => imp_congr_right fun _ => ?_
    simp only [Bool.or_eq_true, List.any_eq_true, decide_eq_true_eq]
    exact or_comm
theorem Shp.nil (x : Fd) (d : List Fd) : Shp (x :: d) [] ↔ x.opt = true ∧ Shp d [] := by
  unfold Shp
  simp
theorem Shp.hit {x : Fd} {d : List Fd} {e : Int × Vl} {f : List (Int × Vl)} (h : AscD (x :: d)) (he : e.1 = x.num) : Shp (x :: d) (e :: f) ↔ Shp d f := by
  obtain ⟨hx, -⟩ := List.pairwise_cons.1 h
  unfold Shp
  rw [List.pairwise_cons]
  constructor
  · rintro ⟨⟨h1, h2⟩, h3, h4⟩
    refine ⟨h2, fun e' he' => ?_, fun y hy => ?_⟩
    · obtain ⟨y, hy, k⟩ := h3 e' (by simp [he'])
      rcases List.mem_cons.1 hy with rfl | hy
      · have := h1 e' he'; omega
      · exact ⟨y, hy, k⟩
    · rcases h4 y (by simp [hy]) with k | ⟨e', he', k⟩
      · exact .inl k
      · rcases List.mem_cons.1 he' with rfl | he'
        · have := hx y hy; omega
        · exact .inr ⟨e', he', k⟩
  · rintro ⟨h2, h3, h4⟩
    refine ⟨⟨fun e' he' => ?_, h2⟩, fun e' he' => ?_, fun y hy => ?_⟩
    · obtain ⟨y, hy, k⟩ := h3 e' he'
      have := hx y hy; omega
    · rcases List.mem_cons.1 he' with rfl | he'
      · exact ⟨x, by simp, he.symm⟩
      · obtain ⟨y, hy, k⟩ := h3 e' he'
        exact ⟨y, by simp [hy], k⟩
    · rcases List.mem_cons.1 hy with rfl | hy
      · exact .inr ⟨e, by simp, he⟩
      · rcases h4 y hy with k | ⟨e', he', k⟩
        · exact .inl k
        · exact .inr ⟨e', by simp [he'], k⟩
theorem Shp.miss {x : Fd} {d : List Fd} {e : Int × Vl} {f : List (Int × Vl)} (h : AscD (x :: d)) (he : e.1 ≠ x.num) : Shp (x :: d) (e :: f) ↔ x.opt = true ∧ Shp d (e :: f) := by
  obtain ⟨hx, -⟩ := List.pairwise_cons.1 h
  unfold Shp
  constructor
  · rintro ⟨h1, h3, h4⟩
    have hne : ∀ e' ∈ e :: f, e'.1 ≠ x.num := fun e' he' k => by
      rcases List.mem_cons.1 he' with rfl | he'
      · exact he k
      · have h5 := (List.pairwise_cons.1 h1).1 e' he'
        obtain ⟨y, hy, k2⟩ := h3 e (by simp)
        rcases List.mem_cons.1 hy with rfl | hy
        · exact he k2.symm
        · have := hx y hy; omega
    refine ⟨?_, h1, fun e' he' => ?_, fun y hy => h4 y (by simp [hy])⟩
    · rcases h4 x (by simp) with k | ⟨e', he', k⟩
      · exact k
      · exact absurd k (hne e' he')
    · obtain ⟨y, hy, k⟩ := h3 e' he'
      rcases List.mem_cons.1 hy with rfl | hy
      · exact absurd k.symm (hne e' he')
      · exact ⟨y, hy, k⟩
  · rintro ⟨h0, h1, h3, h4⟩
    refine ⟨h1, fun e' he' => ?_, fun y hy => ?_⟩
    · obtain ⟨y, hy, k⟩ := h3 e' he'
      exact ⟨y, by simp [hy], k⟩
    · rcases List.mem_cons.1 hy with rfl | hy
      · exact .inl h0
      · exact h4 y hy
theorem mt_shp : ∀ {d : List Fd} {f : List (Int × Vl)}, AscD d → ((mt d f).isSome = true ↔ Shp d f)
  | [], [], _ => by simp [mt, Shp]
  | [], e :: f, _ => by
    rw [mt]
    constructor
    · intro h; cases h
    · rintro ⟨-, h, -⟩
      obtain ⟨y, hy, -⟩ := h e (by simp)
      cases hy
  | x :: d, [], h => by
    rw [mt, Shp.nil, ← mt_shp (List.pairwise_cons.1 h).2]
    cases x.opt <;> simp
  | x :: d, e :: f, h => by
    rw [mt]
    by_cases he : e.1 = x.num
    · rw [if_pos he, Shp.hit h he, ← mt_shp (List.pairwise_cons.1 h).2]
      simp
    · rw [if_neg he, Shp.miss h he, ← mt_shp (List.pairwise_cons.1 h).2]
      cases x.opt <;> simp
/-- Whether an entry's value is shaped as the struct asks. -/
theorem mt_shape {d : List Fd} {f : List (Int × Vl)} (h : AscD d) : (mt d f).isSome = shp d f := by
  rw [Bool.eq_iff_iff, mt_shp h, shp_iff]
theorem fst_skip {x : Fd} {d : List Fd} {m : Int} (h : m ≠ x.num) : fst_ Fd.num (x :: d) m = fst_ Fd.num d m := by
  rw [fst_cons, if_neg (fun e => h e.symm)]
theorem mt_types : ∀ {d : List Fd} {f : List (Int × Vl)} {T : List Ty}, AscD d → mt d f = some T → T = f.map fun e => ((fst_ Fd.num d e.1).getD fd0).type
  | [], [], T, _, e => by simp [mt] at e; subst e; rfl
  | [], _ :: _, T, _, e => by simp [mt] at e
  | x :: d, [], T, h, e => by
    rw [mt] at e
    split at e
    · have := mt_types (d := d) (f := []) (List.pairwise_cons.1 h).2 e
      rw [this]; rfl
    · cases e
  | x :: d, e :: f, T, h, k => by
    have hs := (mt_shp (f := e :: f) h).1 (by rw [k]; rfl)
    rw [mt] at k
    obtain ⟨hx, hd⟩ := List.pairwise_cons.1 h
    by_cases he : e.1 = x.num
    · rw [if_pos he] at k
      cases h2 : mt d f with
      | none => rw [h2] at k; cases k
      | some U =>
        rw [h2] at k
        have k : x.type :: U = T := by simpa using k
        subst k
        have hs2 := ((Shp.hit h he).1 hs).2.1
        rw [List.map_cons, fst_cons, if_pos he.symm, mt_types hd h2]
        congr 1
        refine List.map_congr_left fun e' he' => ?_
        obtain ⟨y, hy, k⟩ := hs2 e' he'
        rw [fst_skip (by have := hx y hy; omega)]
    · rw [if_neg he] at k
      have hs2 := ((Shp.miss h he).1 hs).2.2.1
      split at k
      · rw [mt_types hd k]
        refine List.map_congr_left fun e' he' => ?_
        obtain ⟨y, hy, k⟩ := hs2 e' he'
        rw [fst_skip (by have := hx y hy; omega)]
      · cases k
theorem mt_opt {x : Fd} {d : List Fd} {f : List (Int × Vl)} (h : ∀ e g, f = e :: g → e.1 ≠ x.num) (ho : x.opt = true) : mt (x :: d) f = mt d f := by
  cases f with
  | nil => rw [mt, if_pos ho]
  | cons e g => rw [mt, if_neg (h e g rfl), if_pos ho]
theorem mt_must {x : Fd} {d : List Fd} {f : List (Int × Vl)} (h : ∀ e g, f = e :: g → e.1 ≠ x.num) (ho : x.opt = false) : mt (x :: d) f = none := by
  cases f with
  | nil => rw [mt, if_neg (by simp [ho])]
  | cons e g => rw [mt, if_neg (h e g rfl), if_neg (by simp [ho])]
theorem mt_hit {x : Fd} {d : List Fd} {e : Int × Vl} {f : List (Int × Vl)} (h : e.1 = x.num) : mt (x :: d) (e :: f) = (mt d f).map (x.type :: ·) := by rw [mt, if_pos h]
def tyC (l : List (Ty × Option Addr × Nat)) : List Value := l.flatMap fun p => [.int .i64 p.1.kind, .int .i64 p.1.size, .string (bs p.1.name), .slice p.2.1 p.1.elem.length p.2.2]
theorem tyC_at : ∀ {l : List (Ty × Option Addr × Nat)} {i : Nat} (hi : i < l.length), (tyC l)[i * 4]? = some (.int .i64 (l[i]'hi).1.kind) ∧ (tyC l)[i * 4 + 1]? = some (.int .i64 (l[i]'hi).1.size) ∧ (tyC l)[i * 4 + 2]? = some (.string (bs (l[i]'hi).1.name)) ∧ (tyC l)[i * 4 + 3]? = some (.slice (l[i]'hi).2.1 (l[i]'hi).1.elem.length (l[i]'hi).2.2)
  | p :: l, 0, _ => ⟨rfl, rfl, rfl, rfl⟩
  | p :: l, i + 1, hi => by
    have := tyC_at (l := l) (i := i) (by simpa using hi)
    have e : (i + 1) * 4 = i * 4 + 1 + 1 + 1 + 1 := by omega
    rw [e]
    exact this
/-- The slice v owns the types l. -/
def TyR (B : Nat) (W0 w : World) (v : Value) (l : List (Ty × Option Addr × Nat)) : Prop := w.ownsRow B 29 4 v l.length (tyC l) ∧ ∀ p ∈ l, Rw TyA 4 W0 p.1.elem p.2.1
theorem TyR.nil (B : Nat) (W0 w : World) : TyR B W0 w (.slice none 0 0) [] := ⟨World.ownsRow_nil _ _ _ _, fun _ h => by cases h⟩
theorem TyR.other {B : Nat} {W0 w w' : World} {v : Value} {l : List (Ty × Option Addr × Nat)} (h : TyR B W0 w v l) (hb : Below w.heap.size w w') : TyR B W0 w' v l := ⟨own_next h.1 hb, h.2⟩
theorem TyR.sl {B : Nat} {W0 w : World} {v : Value} {l : List (Ty × Option Addr × Nat)} (h : TyR B W0 w v l) (hb : Below W0.heap.size W0 w) : Sl TyA 4 w (l.map Prod.fst) v := by
  obtain ⟨h1, hp⟩ := h
  have h2 := h1
  obtain ⟨-, ⟨rfl, h3⟩ | ⟨g, cap, cur, rfl, -⟩⟩ := h2
  · obtain rfl := List.eq_nil_of_length_eq_zero h3
    exact Sl.nil _ _ _
  · refine ⟨_, cap, by rw [List.length_map], .inr ⟨_, rfl, fun i hi => ?_⟩⟩
    have hi2 : i < l.length := by simpa using hi
    obtain ⟨e0, e1, e2, e3⟩ := tyC_at hi2
    have c0 := World.ownsRow.cells h1 (g := g) rfl _ _ e0
    have c1 := World.ownsRow.cells h1 (g := g) rfl _ _ e1
    have c2 := World.ownsRow.cells h1 (g := g) rfl _ _ e2
    have c3 := World.ownsRow.cells h1 (g := g) rfl _ _ e3
    rw [List.getElem_map]
    rw [Addr.add_lit] at c0 c1 c2 c3 ⊢
    exact TyA.of c0 c1 c2 c3 ((hp _ (List.getElem_mem hi2)).next fun x p => TyA.next hb x p)
theorem infoTy : (Tryz.prog.info? 29).map (fun i => (i.zero, i.size, i.bytes)) = some (some (.agg #[.int .i64 0, .int .i64 0, .string ⟨#[]⟩, .slice none 0 0]), 4, 56) := by kernel_rfl
theorem wpList_pushTy {w : World} {ops : Array Oper} {rest : List Oper} {o : Oper} {a : Act} {Q : Exit → Act → World → Prop} (hgd : o.guard = none) (s x : Operand)
    (ho : o.op = .call { callee := .builtin .append, args := #[s, x], argTypes := #[27, 27] }) (B : Nat) (W0 : World) (v : Value) (l : List (Ty × Option Addr × Nat)) (t : Ty) (A : Option Addr) (c : Nat) (ad : Addr) (d : Nat) (hs : a.eval s = v) (hx : a.eval x = .slice (some ad) 1 d)
    (hown : TyR B W0 w v l) (hA : Rw TyA 4 W0 t.elem A) (h0 : w.cell? (ad.add 0) = some (.int .i64 t.kind)) (h1 : w.cell? (ad.add 1) = some (.int .i64 t.size)) (h2 : w.cell? (ad.add 2) = some (.string (bs t.name))) (h3 : w.cell? (ad.add 3) = some (.slice A t.elem.length c)) (hm : l.length ≤ 100000) (hB : B ≤ w.heap.size)
    (h : ∀ v' w', TyR B W0 w' v' (l ++ [(t, A, c)]) → w.grownBy w' v.ownBlock → (v'.ownBlock = v.ownBlock ∨ v'.ownBlock = some w.heap.size) → wpList Tryz.prog ops Q rest (a.put o.dst v') w') : wpList Tryz.prog ops Q (o :: rest) a w := by
  obtain ⟨i, hi, hz, hs5, hby⟩ := info_parts infoTy
  refine wpList_append_own_at w hgd s x 27 ho B 29 i _ 4 56 Tryz.underlying27 hi hz hs5 hby rfl (by omega) v l.length (tyC l) hs hown.1 ad 1 d [.int .i64 t.kind, .int .i64 t.size, .string (bs t.name), .slice A t.elem.length c] hx rfl
    (by intro j u hj
        match j, hj with
        | 0, hj => simp at hj; subst hj; exact h0
        | 1, hj => simp at hj; subst hj; exact h1
        | 2, hj => simp at hj; subst hj; exact h2
        | 3, hj => simp at hj; subst hj; exact h3) (by simp [Value.oneCell']) (by simp only [maxLen]; omega) (by omega) hB ?_
  intro v' w' h1 h2 _ h4
  refine h v' w' ⟨?_, ?_⟩ h2 h4
  · rw [show tyC (l ++ [(t, A, c)]) = tyC l ++ [.int .i64 t.kind, .int .i64 t.size, .string (bs t.name), .slice A t.elem.length c] by simp [tyC], List.length_append]
    exact h1
  · intro p hp
    rcases List.mem_append.1 hp with hp | hp
    · exact hown.2 p hp
    · obtain rfl : p = (t, A, c) := by simpa using hp
      exact hA
end Go.Proofs.YthfodpbecddheaaGreatDoor
/-
  The developers' match: the types of entries, field by field. No conditions beyond those that each names.
-/
namespace Go.Proofs.YthfodpbecddheaaGreatDoor
open Go.RowKit
theorem mt_step_hit {d : List Fd} {f : List (Int × Vl)} {l : List Ty} {k m : Nat} (hk : k < d.length) (hm : m < f.length) (h : mt d f = (mt (d.drop k) (f.drop m)).map (l ++ ·)) (he : (f[m]'hm).1 = (d[k]'hk).num) :
    mt d f = (mt (d.drop (k + 1)) (f.drop (m + 1))).map ((l ++ [(d[k]'hk).type]) ++ ·) := by
  rw [h, List.drop_eq_getElem_cons hk, List.drop_eq_getElem_cons hm, mt_hit he]
  cases mt (d.drop (k + 1)) (f.drop (m + 1)) <;> simp
theorem drop_ne {d : List Fd} {f : List (Int × Vl)} {k m : Nat} (hk : k < d.length) (hne : ∀ hm : m < f.length, (f[m]'hm).1 ≠ (d[k]'hk).num) : ∀ e g, f.drop m = e :: g → e.1 ≠ (d[k]'hk).num := fun e g hg => by
  by_cases hm : m < f.length
  · rw [List.drop_eq_getElem_cons hm] at hg
    injection hg with h1 _
    rw [← h1]
    exact hne hm
  · rw [List.drop_eq_nil_of_le (by omega)] at hg
    cases hg
theorem mt_step_opt {d : List Fd} {f : List (Int × Vl)} {l : List Ty} {k m : Nat} (hk : k < d.length) (h : mt d f = (mt (d.drop k) (f.drop m)).map (l ++ ·)) (hne : ∀ hm : m < f.length, (f[m]'hm).1 ≠ (d[k]'hk).num) (ho : (d[k]'hk).opt = true) :
    mt d f = (mt (d.drop (k + 1)) (f.drop m)).map (l ++ ·) := by
  rw [h, List.drop_eq_getElem_cons hk, mt_opt (drop_ne hk hne) ho]
theorem mt_step_must {d : List Fd} {f : List (Int × Vl)} {l : List Ty} {k m : Nat} (hk : k < d.length) (h : mt d f = (mt (d.drop k) (f.drop m)).map (l ++ ·)) (hne : ∀ hm : m < f.length, (f[m]'hm).1 ≠ (d[k]'hk).num) (ho : (d[k]'hk).opt = false) :
    mt d f = none := by
  rw [h, List.drop_eq_getElem_cons hk, mt_must (drop_ne hk hne) ho]
  rfl
theorem mt_stop {d : List Fd} {f : List (Int × Vl)} {l : List Ty} {m : Nat} (h : mt d f = (mt (d.drop d.length) (f.drop m)).map (l ++ ·)) (hm : m = f.length) : mt d f = some l := by
  rw [h, List.drop_eq_nil_of_le (Nat.le_refl _), List.drop_eq_nil_of_le (by omega)]
  simp [mt]
theorem mt_over {d : List Fd} {f : List (Int × Vl)} {l : List Ty} {m : Nat} (h : mt d f = (mt (d.drop d.length) (f.drop m)).map (l ++ ·)) (hm : m < f.length) : mt d f = none := by
  rw [h, List.drop_eq_nil_of_le (Nat.le_refl _), List.drop_eq_getElem_cons hm]
  simp [mt]
/-- The types of the entries, or that they are not as the fields ask. -/
def MtP (d : List Fd) (f : List (Int × Vl)) (w : World) (e : Ending) (w' : World) : Prop :=
  ∃ (A : Option Addr) (n c : Nat), e = .returned (.tuple #[.slice A n c, .bool (mt d f).isSome]) ∧ Below w.heap.size w w' ∧ ∀ T, mt d f = some T → n = T.length ∧ Rw TyA 4 w' T A
theorem MtP.none_ {d : List Fd} {f : List (Int × Vl)} {w w' : World} {A : Option Addr} {n c : Nat} (h : mt d f = none) (hb : Below w.heap.size w w') : MtP d f w (.returned (.tuple #[.slice A n c, .bool false])) w' := ⟨A, n, c, by rw [h]; rfl, hb, fun T e => by rw [h] at e; cases e⟩
theorem MtP.some_ {d : List Fd} {f : List (Int × Vl)} {w w' : World} {A : Option Addr} {n c : Nat} {l : List (Ty × Option Addr × Nat)} (h : mt d f = some (l.map Prod.fst)) (hb : Below w.heap.size w w') (hT : TyR w.heap.size w w' (.slice A n c) l) : MtP d f w (.returned (.tuple #[.slice A n c, .bool true])) w' := by
  refine ⟨A, n, c, by rw [h]; rfl, hb, fun T e => ?_⟩
  rw [h] at e
  injection e with e
  subst e
  obtain ⟨B, q, e2, h2⟩ := hT.sl hb
  injection e2 with e3 e4 e5
  subst e3
  exact ⟨e4, h2⟩
theorem own_ge {base : Nat} {w : World} {e : TypeId} {z n : Nat} {v : Value} {xs : List Value} (h : w.ownsRow base e z v n xs) {g : Nat} (hg : v.ownBlock = some g) : base ≤ g := by
  rcases h.2 with ⟨rfl, -⟩ | ⟨g', cap, cur, rfl, h2, -⟩
  · simp [Value.ownBlock] at hg
  · simp [Value.ownBlock] at hg
    rw [← hg]
    exact h2
set_option maxRecDepth 100000 in
set_option maxHeartbeats 8000000 in
theorem match_any (d : List Fd) (f : List (Int × Vl)) (A : Option Addr) (c : Nat) (B : Option Addr) (b : Nat) (w : World) (hd : d.length ≤ 1000) (hf : f.length ≤ 9223372036854775807) (hD : Rw FdA 7 w d A) (hF : Rw EtA 6 w f B) :
    Calls Tryz.prog 128 #[.slice A d.length c, .slice B f.length b] w (MtP d f w) := by
  obtain ⟨n, hn⟩ : ∃ n, d.length = n := ⟨_, rfl⟩
  obtain ⟨q, hq⟩ : ∃ q, f.length = q := ⟨_, rfl⟩
  have HN := Lib.hid hn
  have HQ := Lib.hid hq
  rw [hn] at hd ⊢
  rw [hq] at hf ⊢
  clear hn hq
  have H0 : Hid (mt d f = (mt (d.drop 0) (f.drop 0)).map (([] : List Ty) ++ ·)) := Lib.hid (by simp)
  go_enter Tryz.func128, Tryz.ntmps128
  go_wp2_with fail
  go_loopw [6, 12] (fun v i wr => ∃ (k : Nat) (l : List (Ty × Option Addr × Nat)), k ≤ n ∧ i = .int .i64 (k : Int) ∧ Hid (l.length ≤ k ∧ l.length ≤ q) ∧ Hid (TyR w.heap.size w wr v l) ∧ Hid (mt d f = (mt (d.drop k) (f.drop l.length)).map ((l.map Prod.fst) ++ ·)) ∧ Below w.heap.size w wr) (fun _ i _ => n - (intOf i).toNat)
  case atStart => exact ⟨0, [], by omega, rfl, Lib.hid ⟨Nat.le_refl _, Nat.zero_le _⟩, Lib.hid (TyR.nil _ _ _), H0, Below.refl _ _⟩
  case round =>
    obtain ⟨k, l, hk, rfl, HL, HT, HI, hb⟩ := hrel
    clear H0
    obtain ⟨m, C, cc, hm, hv⟩ : ∃ m C cc, l.length = m ∧ u6 = .slice C m cc := by
      obtain ⟨C, cc, h, -⟩ := HT.out.sl hb
      rw [List.length_map] at h
      exact ⟨_, C, cc, rfl, h⟩
    subst hv
    have HM := Lib.hid hm
    have hm1 : m ≤ 1000 := by have := HL.out.1; omega
    have hmq : m ≤ q := by have := HL.out.2; omega
    clear hm
    by_cases hlt : k < n
    · have hk1 := Lib.hid hlt
      have hkd : k < d.length := by rw [HN.out]; exact hlt
      obtain ⟨a, rfl, hA⟩ := hD.get hkd
      obtain ⟨z0, z1, z2, z3, z4, ⟨A3, c3, z5, hEt⟩, z6⟩ := hA
      have x0 := cell_next hb z0
      have x1 := cell_next hb z1
      have x2 := cell_next hb z2
      have x3 := cell_next hb z3
      have x4 := cell_next hb z4
      have x5 := cell_next hb z5
      have x6 := cell_next hb z6
      have hblk : (a.add (k * 7)).block < wr.heap.size := blk_lt x0
      clear z0 z1 z2 z3 z4 z5 z6
      have HOpt := Lib.hid (fun (hne : ∀ hm : l.length < f.length, (f[l.length]'hm).1 ≠ (d[k]'hkd).num) (ho : (d[k]'hkd).opt = true) => mt_step_opt hkd HI.out hne ho)
      have HMust := Lib.hid (fun (hne : ∀ hm : l.length < f.length, (f[l.length]'hm).1 ≠ (d[k]'hkd).num) (ho : (d[k]'hkd).opt = false) => mt_step_must hkd HI.out hne ho)
      have HHit := Lib.hid (fun (hm : l.length < f.length) (he : (f[l.length]'hm).1 = (d[k]'hkd).num) => mt_step_hit hkd hm HI.out he)
      generalize d[k]'hkd = x at *
      clear HI
      by_cases hmlt : m < q
      · have dm : decide (m < q) = true := decide_eq_true hmlt
        have hmf : l.length < f.length := by rw [HM.out, HQ.out]; exact hmlt
        obtain ⟨b', rfl, hE⟩ := hF.get hmf
        have y0 : wr.cell? (b'.add (m * 6)) = some (.int .i64 (f[l.length]'hmf).1) := by
          have := cell_next hb hE.1
          rwa [show l.length * 6 = m * 6 by rw [HM.out]] at this
        have hblk2 : (b'.add (m * 6)).block < wr.heap.size := blk_lt y0
        clear hE
        by_cases he : (f[l.length]'hmf).1 = x.num
        · have HH := Lib.hid (HHit.out hmf he)
          rw [he] at y0
          have q1 : (x.num == x.num) = true := by simp
          clear HHit HMust HOpt he hmf
          go_wp2_with fail
          go_quiet (fail)
          have hbW := Below.next (below_drewN (ab1 wr (Obj.cells #[.int .i64 x.num, .string (bs x.name), .int .i64 x.type.kind, .int .i64 x.type.size, .string (bs x.type.name), .slice A3 x.type.elem.length c3, .bool x.opt] 57)) nq) (ab1 _ (Obj.cells #[.int .i64 x.type.kind, .int .i64 x.type.size, .string (bs x.type.name), .slice A3 x.type.elem.length c3] 29))
          have B2 := Bx.new4 ((wr.alloc (Obj.cells #[.int .i64 x.num, .string (bs x.name), .int .i64 x.type.kind, .int .i64 x.type.size, .string (bs x.type.name), .slice A3 x.type.elem.length c3, .bool x.opt] 57)).drewN nq) 29 (.int .i64 x.type.kind) (.int .i64 x.type.size) (.string (bs x.type.name)) (.slice A3 x.type.elem.length c3)
          rw [show ((wr.alloc (Obj.cells #[.int .i64 x.num, .string (bs x.name), .int .i64 x.type.kind, .int .i64 x.type.size, .string (bs x.type.name), .slice A3 x.type.elem.length c3, .bool x.opt] 57)).drewN nq).heap.size = wr.heap.size + 1 by simp] at B2
          go_wp2_with (at_builtin; refine wpList_pushTy rfl (.tmp 32) (.tmp 35) rfl w.heap.size w (.slice C m cc) l x.type A3 c3 ⟨wr.heap.size + 1, 0, none⟩ 1 rfl rfl (HT.out.other hbW) hEt (B2.c 0 rfl) (B2.c 1 rfl) (B2.c 2 rfl) (B2.c 3 rfl) (by rw [HM.out]; omega) (Nat.le_trans hb.size hbW.size) ?_; intro v' w6 ho' hg' h4')
          have hb6 : Below w.heap.size w w6 := (Below.next hb hbW).grown hg' (Below.next hb hbW).size (by intro g hg; exact own_ge HT.out.1 hg)
          go_roundw
          case rel => exact ⟨k + 1, l ++ [(x.type, A3, c3)], hk1.out, by go_num, Lib.hid ⟨by have := HL.out.1; simp; omega, by have := HM.out; simp; omega⟩, Lib.hid ho', Lib.hid (by have := HH.out; simpa using this), hb6⟩
          case measure => have := hk1.out; simp [intOf]; omega
        · have hne : ∀ hm : l.length < f.length, (f[l.length]'hm).1 ≠ x.num := fun hm => he
          have HO := Lib.hid (HOpt.out hne)
          have HU := Lib.hid (HMust.out hne)
          have q1 : ((f[l.length]'hmf).1 == x.num) = false := by simpa using he
          generalize (f[l.length]'hmf).1 = y at *
          clear HHit HMust HOpt he hmf hne
          by_cases hopt : x.opt = true
          · have HO2 := Lib.hid (HO.out hopt)
            rw [hopt] at x6
            clear HO HU hopt
            go_wp2_with fail
            go_quiet (fail)
            go_wp2_with fail
            go_roundw
            case rel => exact ⟨k + 1, l, hk1.out, by go_num, Lib.hid ⟨by have := HL.out.1; omega, HL.out.2⟩, Lib.hid (HT.out.other (below_drewN (ab1 wr _) nq)), HO2, Below.next hb (below_drewN (ab1 wr _) nq)⟩
            case measure => have := hk1.out; simp [intOf]; omega
          · have hopt : x.opt = false := by simpa using hopt
            have HU2 := Lib.hid (HU.out hopt)
            rw [hopt] at x6
            clear HO HU hopt
            go_wp2_with fail
            go_quiet (fail)
            go_wp2_with fail
            exact bodyPost_ret (v := .tuple #[.slice none 0 0, .bool false]) (by simp [results, Tryz.results128, go_sem]) rfl (MtP.none_ HU2.out (Below.next hb (below_drewN (ab1 wr _) nq)))
      · have dm : decide (m < q) = false := decide_eq_false hmlt
        have hne : ∀ hm : l.length < f.length, (f[l.length]'hm).1 ≠ x.num := fun hm => by rw [HM.out, HQ.out] at hm; exact absurd hm hmlt
        have HO := Lib.hid (HOpt.out hne)
        have HU := Lib.hid (HMust.out hne)
        clear HHit HMust HOpt hne
        by_cases hopt : x.opt = true
        · have HO2 := Lib.hid (HO.out hopt)
          rw [hopt] at x6
          clear HO HU hopt
          go_wp2_with fail
          go_quiet (fail)
          go_wp2_with fail
          go_roundw
          case rel => exact ⟨k + 1, l, hk1.out, by go_num, Lib.hid ⟨by have := HL.out.1; omega, HL.out.2⟩, Lib.hid (HT.out.other (below_drewN (ab1 wr _) nq)), HO2, Below.next hb (below_drewN (ab1 wr _) nq)⟩
          case measure => have := hk1.out; simp [intOf]; omega
        · have hopt : x.opt = false := by simpa using hopt
          have HU2 := Lib.hid (HU.out hopt)
          rw [hopt] at x6
          clear HO HU hopt
          go_wp2_with fail
          go_quiet (fail)
          go_wp2_with fail
          exact bodyPost_ret (v := .tuple #[.slice none 0 0, .bool false]) (by simp [results, Tryz.results128, go_sem]) rfl (MtP.none_ HU2.out (Below.next hb (below_drewN (ab1 wr _) nq)))
    · obtain rfl : k = n := by omega
      have HI2 : Hid (mt d f = (mt (d.drop d.length) (f.drop l.length)).map ((l.map Prod.fst) ++ ·)) := Lib.hid (by rw [HN.out]; exact HI.out)
      clear HI
      by_cases hmlt : m = q
      · have HS := Lib.hid (mt_stop HI2.out (by rw [HM.out, HQ.out]; exact hmlt))
        clear HI2
        subst hmlt
        have q1 : ((m : Int) == (m : Int)) = true := by simp
        go_wp2_with fail
        exact bodyPost_ret (v := .tuple #[.slice C m cc, .bool true]) (by simp [results, Tryz.results128, go_sem]) rfl (MtP.some_ HS.out hb HT.out)
      · have HS := Lib.hid (mt_over HI2.out (by rw [HM.out, HQ.out]; omega))
        have q1 : ((m : Int) == (q : Int)) = false := by rw [beq_eq_false_iff_ne]; omega
        clear HI2
        go_wp2_with fail
        exact bodyPost_ret (v := .tuple #[.slice C m cc, .bool false]) (by simp [results, Tryz.results128, go_sem]) rfl (MtP.none_ HS.out hb)
end Go.Proofs.YthfodpbecddheaaGreatDoor
/-
  The developers' check of a list. No conditions beyond those that each names.
-/
namespace Go.Proofs.YthfodpbecddheaaGreatDoor
open Go.RowKit
theorem Bx.put7 {w : World} {b : Nat} {x y z u p q r : Value} (h : Bx w b [x, y, z, u, p, q, r]) (x' y' z' u' p' q' r' : Value) : Bx (((((((w.setCell ⟨b, 0, none⟩ x').setCell ⟨b, 1, none⟩ y').setCell ⟨b, 2, none⟩ z').setCell ⟨b, 3, none⟩ u').setCell ⟨b, 4, none⟩ p').setCell ⟨b, 5, none⟩ q').setCell ⟨b, 6, none⟩ r') b [x', y', z', u', p', q', r'] := ((((((h.put1 0 x').put1 1 y').put1 2 z').put1 3 u').put1 4 p').put1 5 q').put1 6 r'
theorem gb_set7 (w : World) (b : Nat) (x y z u p q r : Value) : w.grownBy (((((((w.setCell ⟨b, 0, none⟩ x).setCell ⟨b, 1, none⟩ y).setCell ⟨b, 2, none⟩ z).setCell ⟨b, 3, none⟩ u).setCell ⟨b, 4, none⟩ p).setCell ⟨b, 5, none⟩ q).setCell ⟨b, 6, none⟩ r) (some b) := (gb_set6 w b x y z u p q).trans (gb_set1 _ ⟨b, 6, none⟩ r)
/-- What the check of a value of at most a size answers. -/
def CkI (S : Sch) (N : Nat) : Prop := ∀ (t : Ty) (v : Vl) (A : Option Addr) (c : Nat) (A2 : Option Addr) (c2 : Nat) (G : Option Addr) (g : Nat) (u : Value) (w : World), SizeOf.sizeOf v < N → lok t → vok v → Sc w S A A2 → Rw TyA 4 w t.elem G → VlV w v u →
  Calls Tryz.prog 38 #[.agg #[.int .i64 S.ver, .slice A S.enums.length c, .slice A2 S.structs.length c2, .int .i64 t.kind, .int .i64 t.size, .string (bs t.name), .slice G t.elem.length g], u] w (Ib (.int .i64 (vck S t v)) w)
set_option maxRecDepth 100000 in
set_option maxHeartbeats 8000000 in
theorem list_any (S : Sch) (N : Nat) (hI : CkI S N) (A : Option Addr) (c : Nat) (A2 : Option Addr) (c2 : Nat) (k s : Int) (nm : ByteArray) (t : Ty) (G : Option Addr) (g : Nat) (q n : Int) (st : ByteArray) (l : List Vl) (B : Option Addr) (b : Nat) (B2 : Option Addr) (b1 b2 : Nat) (w : World)
    (hl : ∀ i (h : i < l.length), SizeOf.sizeOf (l[i]'h) < N ∧ vok (l[i]'h)) (hlen : l.length ≤ 9223372036854775807) (hu : lok t) (hS : Sc w S A A2) (hG : Rw TyA 4 w [t] G) (hR : Rw VlA 5 w l B) :
    Calls Tryz.prog 79 #[.agg #[.int .i64 S.ver, .slice A S.enums.length c, .slice A2 S.structs.length c2, .int .i64 k, .int .i64 s, .string nm, .slice G 1 g], .agg #[.int .i64 q, .int .i64 n, .string st, .slice B l.length b, .slice B2 b1 b2]] w
      (Ib (.int .i64 (if (l.length : Int) ≤ s then vck.vckl S t l else 3)) w) := by
  obtain ⟨m, hm⟩ : ∃ m, l.length = m := ⟨_, rfl⟩
  have HM := Lib.hid hm
  obtain ⟨r, hr⟩ : ∃ r, (if (l.length : Int) ≤ s then vck.vckl S t l else 3) = r := ⟨_, rfl⟩
  rw [hr]
  rw [hm] at hr hlen ⊢
  clear hm
  have D1 := (Bx.new7 w 81 (.int .i64 S.ver) (.slice A S.enums.length c) (.slice A2 S.structs.length c2) (.int .i64 k) (.int .i64 s) (.string nm) (.slice G 1 g)).next (ab1 _ (Obj.cells #[.int .i64 q, .int .i64 n, .string st, .slice B m b, .slice B2 b1 b2] 34))
  have D2 := Bx.new5 (w.alloc (Obj.cells #[.int .i64 S.ver, .slice A S.enums.length c, .slice A2 S.structs.length c2, .int .i64 k, .int .i64 s, .string nm, .slice G 1 g] 81)) 34 (.int .i64 q) (.int .i64 n) (.string st) (.slice B m b) (.slice B2 b1 b2)
  rw [show (w.alloc (Obj.cells #[.int .i64 S.ver, .slice A S.enums.length c, .slice A2 S.structs.length c2, .int .i64 k, .int .i64 s, .string nm, .slice G 1 g] 81)).heap.size = w.heap.size + 1 by simp] at D2
  have hab := ab2 w (Obj.cells #[.int .i64 S.ver, .slice A S.enums.length c, .slice A2 S.structs.length c2, .int .i64 k, .int .i64 s, .string nm, .slice G 1 g] 81) (Obj.cells #[.int .i64 q, .int .i64 n, .string st, .slice B m b, .slice B2 b1 b2] 34)
  by_cases h1 : (m : Int) ≤ s
  case neg =>
    rw [if_neg h1] at hr
    subst hr
    have d1 : decide (s < (m : Int)) = true := decide_eq_true (by omega)
    clear hI D1 D2 h1
    go_enter Tryz.func79, Tryz.ntmps79
    go_wp2_with fail
    go_ret
    exact ⟨rfl, hab⟩
  case pos =>
  rw [if_pos h1] at hr
  have d1 : decide (s < (m : Int)) = false := decide_eq_false (by omega)
  have HR := Lib.hid hr
  clear hr h1
  obtain ⟨a, rfl, hA⟩ := hG.get (i := 0) (by show 0 < 1; omega)
  rw [Nat.zero_mul] at hA
  have hA : TyA w t a := hA
  obtain ⟨e0, e1, e2, A4, c4, e3, hVe⟩ := hA.cells
  have hblk : a.block < w.heap.size := blk_lt e0
  go_enter Tryz.func79, Tryz.ntmps79
  go_upto_region 3 with (fail)
  generalize (w.alloc (Obj.cells #[.int .i64 S.ver, .slice A S.enums.length c, .slice A2 S.structs.length c2, .int .i64 k, .int .i64 s, .string nm, .slice (some a) 1 g] 81)).alloc (Obj.cells #[.int .i64 q, .int .i64 n, .string st, .slice B m b, .slice B2 b1 b2] 34) = w1 at *
  have i0 := D1.c 0 rfl
  have i1 := D1.c 1 rfl
  have i2 := D1.c 2 rfl
  have i6 := D1.c 6 rfl
  replace e0 := cell_next hab e0
  replace e1 := cell_next hab e1
  replace e2 := cell_next hab e2
  replace e3 := cell_next hab e3
  refine wp_region_box (by kernel_rfl) (FF [(2, Fact.at_ w1 (.pointer (some ⟨w.heap.size, 0, none⟩))), (16, Fact.at_ w1 (.pointer (some ⟨w.heap.size, 0, none⟩))), (17, Fact.at_ w1 (.agg #[.int .i64 S.ver, .slice A S.enums.length c, .slice A2 S.structs.length c2])), (18, Fact.at_ w1 (.pointer (some ⟨w.heap.size, 3, none⟩))), (19, Fact.at_ w1 (.pointer (some ⟨w.heap.size, 6, none⟩))), (20, Fact.at_ w1 (.slice (some a) 1 g)), (21, Fact.at_ w1 (.pointer (some a))), (22, Fact.at_ w1 (.agg #[.int .i64 t.kind, .int .i64 t.size, .string (bs t.name), .slice A4 t.elem.length c4])), (23, Fact.at_ w1 (.agg #[.int .i64 S.ver, .slice A S.enums.length c, .slice A2 S.structs.length c2, .int .i64 t.kind, .int .i64 t.size, .string (bs t.name), .slice A4 t.elem.length c4]))]) [2] 38 5 9 23 [.int .i64 0, .slice none 0 0, .slice none 0 0, .int .i64 0, .int .i64 0, .string ⟨#[]⟩, .slice none 0 0] [.int .i64 S.ver, .slice A S.enums.length c, .slice A2 S.structs.length c2, .int .i64 t.kind, .int .i64 t.size, .string (bs t.name), .slice A4 t.elem.length c4] [16, 17, 18, 19, 20, 21, 22, 23, 5] rfl (by kernel_rfl) (by kernel_rfl) (by kernel_rfl) (by kernel_rfl) (FF_soft (fcs ⟨at_soft w1 (.pointer (some ⟨w.heap.size, 0, none⟩)), fcs ⟨at_soft w1 (.pointer (some ⟨w.heap.size, 0, none⟩)), fcs ⟨at_soft w1 (.agg #[.int .i64 S.ver, .slice A S.enums.length c, .slice A2 S.structs.length c2]), fcs ⟨at_soft w1 (.pointer (some ⟨w.heap.size, 3, none⟩)), fcs ⟨at_soft w1 (.pointer (some ⟨w.heap.size, 6, none⟩)), fcs ⟨at_soft w1 (.slice (some a) 1 g), fcs ⟨at_soft w1 (.pointer (some a)), fcs ⟨at_soft w1 (.agg #[.int .i64 t.kind, .int .i64 t.size, .string (bs t.name), .slice A4 t.elem.length c4]), fcs ⟨at_soft w1 (.agg #[.int .i64 S.ver, .slice A S.enums.length c, .slice A2 S.structs.length c2, .int .i64 t.kind, .int .i64 t.size, .string (bs t.name), .slice A4 t.elem.length c4]), fnl⟩⟩⟩⟩⟩⟩⟩⟩⟩)) ?_ ?_ ?_
  · intro t9 ht9
    simp only [List.mem_cons, List.not_mem_nil, or_false] at ht9
    rcases ht9 with rfl
    · exact ⟨rfl, Below.refl _ _⟩
  · refine fcs ⟨.plain (at1 2 16 (.pointer (some ⟨w.heap.size, 0, none⟩)) (.pointer (some ⟨w.heap.size, 0, none⟩)) rfl (by first | exact .inl rfl | exact .inr ⟨_, _, _, rfl, rfl, by kernel_rfl, by decide, rfl⟩) (by kernel_rfl) rfl rfl (fun a9 W9 hb9 h9 => by simp [execOp, h9] <;> go_simp)) (by decide) (by decide), ?_⟩
    refine fcs ⟨.plain (at1 16 17 (.pointer (some ⟨w.heap.size, 0, none⟩)) (.agg #[.int .i64 S.ver, .slice A S.enums.length c, .slice A2 S.structs.length c2]) rfl (by first | exact .inl rfl | exact .inr ⟨_, _, _, rfl, rfl, by kernel_rfl, by decide, rfl⟩) (by kernel_rfl) rfl rfl (fun a9 W9 hb9 h9 => by have g0 := cell_next hb9 i0; have g1 := cell_next hb9 i1; have g2 := cell_next hb9 i2; simp [execOp, h9] <;> go_simp)) (by decide) (by decide), ?_⟩
    refine fcs ⟨.plain (at1 2 18 (.pointer (some ⟨w.heap.size, 0, none⟩)) (.pointer (some ⟨w.heap.size, 3, none⟩)) rfl (by first | exact .inl rfl | exact .inr ⟨_, _, _, rfl, rfl, by kernel_rfl, by decide, rfl⟩) (by kernel_rfl) rfl rfl (fun a9 W9 hb9 h9 => by simp [execOp, h9] <;> go_simp)) (by decide) (by decide), ?_⟩
    refine fcs ⟨.plain (at1 18 19 (.pointer (some ⟨w.heap.size, 3, none⟩)) (.pointer (some ⟨w.heap.size, 6, none⟩)) rfl (by first | exact .inl rfl | exact .inr ⟨_, _, _, rfl, rfl, by kernel_rfl, by decide, rfl⟩) (by kernel_rfl) rfl rfl (fun a9 W9 hb9 h9 => by simp [execOp, h9] <;> go_simp)) (by decide) (by decide), ?_⟩
    refine fcs ⟨.plain (at1 19 20 (.pointer (some ⟨w.heap.size, 6, none⟩)) (.slice (some a) 1 g) rfl (by first | exact .inl rfl | exact .inr ⟨_, _, _, rfl, rfl, by kernel_rfl, by decide, rfl⟩) (by kernel_rfl) rfl rfl (fun a9 W9 hb9 h9 => by have g0 := cell_next hb9 i6; simp [execOp, h9] <;> go_simp)) (by decide) (by decide), ?_⟩
    refine fcs ⟨.plain (at1 20 21 (.slice (some a) 1 g) (.pointer (some a)) rfl (by first | exact .inl rfl | exact .inr ⟨_, _, _, rfl, rfl, by kernel_rfl, by decide, rfl⟩) (by kernel_rfl) rfl rfl (fun a9 W9 hb9 h9 => by simp [execOp, h9] <;> go_simp)) (by decide) (by decide), ?_⟩
    refine fcs ⟨.plain (at1 21 22 (.pointer (some a)) (.agg #[.int .i64 t.kind, .int .i64 t.size, .string (bs t.name), .slice A4 t.elem.length c4]) rfl (by first | exact .inl rfl | exact .inr ⟨_, _, _, rfl, rfl, by kernel_rfl, by decide, rfl⟩) (by kernel_rfl) rfl rfl (fun a9 W9 hb9 h9 => by have g0 := cell_next hb9 e0; have g1 := cell_next hb9 e1; have g2 := cell_next hb9 e2; have g3 := cell_next hb9 e3; simp [execOp, h9] <;> go_simp)) (by decide) (by decide), ?_⟩
    refine fcs ⟨.plain (at2 17 22 23 (.agg #[.int .i64 S.ver, .slice A S.enums.length c, .slice A2 S.structs.length c2]) (.agg #[.int .i64 t.kind, .int .i64 t.size, .string (bs t.name), .slice A4 t.elem.length c4]) (.agg #[.int .i64 S.ver, .slice A S.enums.length c, .slice A2 S.structs.length c2, .int .i64 t.kind, .int .i64 t.size, .string (bs t.name), .slice A4 t.elem.length c4]) rfl (by first | exact .inl rfl | exact .inr ⟨_, _, _, rfl, rfl, by kernel_rfl, by decide, rfl⟩) (by kernel_rfl) (by kernel_rfl) rfl rfl rfl (fun a9 W9 hb9 h9 h8 => by simp [execOp, h9, h8] <;> go_simp)) (by decide) (by decide), ?_⟩
    refine fcs ⟨.alloc rfl rfl rfl (by decide) (fun a9 w9 => ⟨_, by simp [execOp, ptr0] <;> go_simp, ab1 _ (Obj.cells #[.int .i64 0, .slice none 0 0, .slice none 0 0, .int .i64 0, .int .i64 0, .string ⟨#[]⟩, .slice none 0 0] 81), Bx.new7 _ _ _ _ _ _ _ _ _⟩), ?_⟩
    refine fcs ⟨.store rfl rfl rfl (by kernel_rfl) (by kernel_rfl) (fun a9 w9 b9 h9 hx9 hf9 => (by have k1 : a9.eval (.tmp 5) = .pointer (some ⟨b9, 0, none⟩) := h9; have k2 : a9.eval (.tmp 23) = .agg #[.int .i64 S.ver, .slice A S.enums.length c, .slice A2 S.structs.length c2, .int .i64 t.kind, .int .i64 t.size, .string (bs t.name), .slice A4 t.elem.length c4] := hf9.1; have g0 := hx9.c 0 rfl; have g1 := hx9.c 1 rfl; have g2 := hx9.c 2 rfl; have g3 := hx9.c 3 rfl; have g4 := hx9.c 4 rfl; have g5 := hx9.c 5 rfl; have g6 := hx9.c 6 rfl; have f0 := hx9.f 0 rfl; have f1 := hx9.f 1 rfl; have f2 := hx9.f 2 rfl; have f3 := hx9.f 3 rfl; have f4 := hx9.f 4 rfl; have f5 := hx9.f 5 rfl; have f6 := hx9.f 6 rfl; have l9 := hx9.lt; exact ⟨_, by simp [execOp, k1, k2] <;> go_simp, gb_set7 _ _ _ _ _ _ _ _ _, hx9.put7 _ _ _ _ _ _ _⟩)), ?_⟩
    exact fnl
  rintro vv wv hvv ⟨gx, hgx, hgl, hX⟩ hbv
  unfold ptr0 at hgx
  simp only [lay, List.foldl_cons, List.foldl_nil, List.setIfInBounds_toArray, List.set_cons_succ, List.set_cons_zero, hgx]
  replace D2 := D2.next hbv
  have hbw := Below.next hab hbv
  have HX := Lib.hid (hX : Bx wv gx [.int .i64 S.ver, .slice A S.enums.length c, .slice A2 S.structs.length c2, .int .i64 t.kind, .int .i64 t.size, .string (bs t.name), .slice A4 t.elem.length c4])
  have HG := Lib.hid (show Rw TyA 4 w t.elem A4 from hVe)
  clear i0 i1 i2 i6 e0 e1 e2 e3 hX hvv D1
  have y3 := D2.c 3 rfl
  have H0 : Hid (vck.vckl S t (l.take 0) = 0) := Lib.hid (by rw [List.take_zero, vck.vckl])
  go_wp2_with fail
  go_loopw [27] (fun i wr => ∃ kk : Nat, kk ≤ m ∧ i = .int .i64 (kk : Int) ∧ Hid (vck.vckl S t (l.take kk) = 0) ∧ Bx wr gx [.int .i64 S.ver, .slice A S.enums.length c, .slice A2 S.structs.length c2, .int .i64 t.kind, .int .i64 t.size, .string (bs t.name), .slice A4 t.elem.length c4] ∧ Below w.heap.size w wr) (fun i _ => m - (intOf i).toNat)
  case atStart => exact ⟨0, by omega, rfl, H0, HX.out, hbw⟩
  case round =>
    obtain ⟨kk, hkk, rfl, HK, hX, hb⟩ := hrel
    clear H0 HX hbw
    by_cases hlt : kk < m
    · have hk1 := Lib.hid hlt
      have hkl : kk < l.length := by rw [HM.out]; exact hlt
      obtain ⟨b', rfl, hE⟩ := hR.get hkl
      obtain ⟨s', x0, x1, x2, x3, x4, hrd⟩ := (VlA.next hb _ _ hE).sb
      have hblk' : (b'.add (kk * 5)).block < wr.heap.size := blk_lt x0
      obtain ⟨hs1, hs2⟩ := hl kk hkl
      have cR := fun W (h : Below wr.heap.size wr W) => hI t (l[kk]'hkl) A c A2 c2 A4 c4 (.agg (encV (l[kk]'hkl) s').toArray) W hs1 hu hs2 (Sc.next (Below.next hb h) hS) (HG.out.next fun x p => TyA.next (Below.next hb h) x p) (rdV_iff.2 ⟨s', rfl, hrd.next h⟩)
      have HN := Lib.hid (fun (h0 : vck S t (l[kk]'hkl) = 0) => show vck.vckl S t (l.take (kk + 1)) = 0 by rw [vckl_at hkl HK.out]; exact h0)
      have HE := Lib.hid (fun (h0 : vck S t (l[kk]'hkl) ≠ 0) => show vck S t (l[kk]'hkl) = r by rw [← HR.out, vckl_stop hkl HK.out h0])
      obtain ⟨z, hz⟩ : ∃ z, vck S t (l[kk]'hkl) = z := ⟨_, rfl⟩
      rw [hz] at cR HN HE
      generalize l[kk]'hkl = x at *
      replace cR : ∀ W, Below wr.heap.size wr W → Calls Tryz.prog 38 #[.agg #[.int .i64 S.ver, .slice A S.enums.length c, .slice A2 S.structs.length c2, .int .i64 t.kind, .int .i64 t.size, .string (bs t.name), .slice A4 t.elem.length c4], .agg #[.int .i64 x.kind, .int .i64 x.n, .string (bs x.s), .slice s'.A x.l.length s'.c, .slice s'.B x.f.length s'.d]] W (Ib (.int .i64 z) W) := cR
      have X2 := hX.next (ab1 wr (Obj.cells #[.int .i64 x.kind, .int .i64 x.n, .string (bs x.s), .slice s'.A x.l.length s'.c, .slice s'.B x.f.length s'.d] 34))
      have j0 := X2.c 0 rfl
      have j1 := X2.c 1 rfl
      have j2 := X2.c 2 rfl
      have j3 := X2.c 3 rfl
      have j4 := X2.c 4 rfl
      have j5 := X2.c 5 rfl
      have j6 := X2.c 6 rfl
      clear HK hz hrd hE hX hs1 hs2
      by_cases h0 : z = 0
      · have HN2 := Lib.hid (HN.out h0)
        subst h0
        clear HN HE
        go_wp2_with fail
        refine (cR _ (ab1 _ _)).mono ?_
        rintro e w2 ⟨rfl, hb2⟩
        go_wp2_with fail
        go_roundw
        case rel => exact ⟨kk + 1, hk1.out, by go_num, HN2, X2.next hb2, Below.next hb (Below.next (ab1 _ _) hb2)⟩
        case measure => have := hk1.out; simp [intOf]; omega
      · have HE2 := HE.out h0
        have qz : (z != 0) = true := by simpa using h0
        subst HE2
        clear HN HE h0
        go_wp2_with fail
        refine (cR _ (ab1 _ _)).mono ?_
        rintro e w2 ⟨rfl, hb2⟩
        go_wp2_with fail
        go_ret
        exact ⟨rfl, Below.next hb (Below.next (ab1 _ _) hb2)⟩
    · obtain rfl : kk = m := by omega
      have hr0 : r = 0 := by rw [← HR.out, ← HK.out, ← HM.out, List.take_length]
      subst hr0
      clear HK
      go_wp2_with fail
      go_ret
      exact ⟨rfl, hb⟩
end Go.Proofs.YthfodpbecddheaaGreatDoor
/-
  The developers' check of a struct. No conditions beyond those that each names.
-/
namespace Go.Proofs.YthfodpbecddheaaGreatDoor
open Go.RowKit
def lok9 (S : Sch) : Prop := ∀ t ∈ S.structs, ∀ f ∈ t.fields, lok f.type
theorem fst_st0' {S : Sch} (x : List UInt8) : ((fst_ St.name S.structs x).getD st0) = st0 ∨ ((fst_ St.name S.structs x).getD st0) ∈ S.structs := by
  cases e : fst_ St.name S.structs x with
  | none => exact .inl rfl
  | some t => exact .inr (fst_mem e).1
theorem lok_fd {S : Sch} (h : lok9 S) (nm : List UInt8) (m : Int) : lok ((fst_ Fd.num ((fst_ St.name S.structs nm).getD st0).fields m).getD fd0).type := by
  cases e : fst_ Fd.num ((fst_ St.name S.structs nm).getD st0).fields m with
  | none => show lok (.mk 0 0 [] []); simp [lok, lok.loks]
  | some x =>
    rcases fst_st0' (S := S) nm with h0 | h0
    · rw [h0] at e; cases e
    · exact h _ h0 _ (fst_mem e).1
theorem asc_st {S : Sch} (h : ∀ t ∈ S.structs, AscD t.fields) (nm : List UInt8) : AscD ((fst_ St.name S.structs nm).getD st0).fields := by
  rcases fst_st0' (S := S) nm with h0 | h0
  · rw [h0]; exact List.Pairwise.nil
  · exact h _ h0
theorem few_st {S : Sch} (h : Few9 S) (nm : List UInt8) : ((fst_ St.name S.structs nm).getD st0).fields.length ≤ 1000 := by
  rcases fst_st0' (S := S) nm with h0 | h0
  · rw [h0]; decide
  · exact (h.st _ h0).1
set_option maxRecDepth 100000 in
set_option maxHeartbeats 8000000 in
theorem structure_any (S : Sch) (N : Nat) (hI : CkI S N) (A : Option Addr) (c : Nat) (A2 : Option Addr) (c2 : Nat) (k s : Int) (nm : List UInt8) (G : Option Addr) (g1 g2 : Nat) (q n : Int) (st : ByteArray) (B1 : Option Addr) (b1 b2 : Nat) (f : List (Int × Vl)) (B : Option Addr) (b : Nat) (w : World)
    (hf : Few9 S) (hlk : lok9 S) (hasc : ∀ t ∈ S.structs, AscD t.fields) (hl : ∀ i (h : i < f.length), SizeOf.sizeOf (f[i]'h).2 < N ∧ vok (f[i]'h).2) (hlen : f.length ≤ 9223372036854775807) (hS : Sc w S A A2) (hR : Rw EtA 6 w f B) :
    Calls Tryz.prog 80 #[.agg #[.int .i64 S.ver, .slice A S.enums.length c, .slice A2 S.structs.length c2, .int .i64 k, .int .i64 s, .string (bs nm), .slice G g1 g2], .agg #[.int .i64 q, .int .i64 n, .string st, .slice B1 b1 b2, .slice B f.length b]] w
      (Ib (.int .i64 (if shp ((fst_ St.name S.structs nm).getD st0).fields f = true then vck.vckf S ((fst_ St.name S.structs nm).getD st0).fields f else 13)) w) := by
  have cS := fun W h => devStruct_any S nm (.agg #[.int .i64 S.ver, .slice A S.enums.length c, .slice A2 S.structs.length c2]) W ⟨A, c, A2, c2, rfl, Sc.next h hS⟩ hf.sl hf.st
  have hL := lok_fd hlk nm
  have hA := asc_st hasc nm
  have hW := few_st hf nm
  unfold StO at cS
  obtain ⟨o, ho⟩ : ∃ o, (fst_ St.name S.structs nm).isSome = o := ⟨_, rfl⟩
  obtain ⟨sT, hsT⟩ : ∃ sT, (fst_ St.name S.structs nm).getD st0 = sT := ⟨_, rfl⟩
  rw [ho, hsT] at cS
  rw [hsT] at hA hW hL ⊢
  clear ho hsT
  obtain ⟨m, hm⟩ : ∃ m, f.length = m := ⟨_, rfl⟩
  have HM := Lib.hid hm
  have cM := fun A3 c3 W (h : Below w.heap.size w W) (hD : Rw FdA 7 W sT.fields A3) => match_any sT.fields f A3 c3 B b W hW hlen hD (hR.next fun x p => EtA.next h x p)
  unfold MtP at cM
  rw [mt_shape hA] at cM
  have hT := fun T (e : mt sT.fields f = some T) => mt_types hA e
  have hs1 : shp sT.fields f = true → ∃ T, mt sT.fields f = some T := fun h => by
    rw [← mt_shape hA] at h
    exact Option.isSome_iff_exists.1 h
  obtain ⟨p, hp⟩ : ∃ p, shp sT.fields f = p := ⟨_, rfl⟩
  rw [hp] at cM hs1 ⊢
  rw [hm] at cM hlen ⊢
  have HL := Lib.hid hl
  have HT := Lib.hid hT
  have HS1 := Lib.hid hs1
  clear hm hp hl hT hs1
  obtain ⟨r, hr⟩ : ∃ r, (if p = true then vck.vckf S sT.fields f else 13) = r := ⟨_, rfl⟩
  rw [hr]
  have HR0 := Lib.hid hr
  clear hr hA
  have D1 := (Bx.new7 w 81 (.int .i64 S.ver) (.slice A S.enums.length c) (.slice A2 S.structs.length c2) (.int .i64 k) (.int .i64 s) (.string (bs nm)) (.slice G g1 g2)).next (ab1 _ (Obj.cells #[.int .i64 q, .int .i64 n, .string st, .slice B1 b1 b2, .slice B m b] 34))
  have D2 := Bx.new5 (w.alloc (Obj.cells #[.int .i64 S.ver, .slice A S.enums.length c, .slice A2 S.structs.length c2, .int .i64 k, .int .i64 s, .string (bs nm), .slice G g1 g2] 81)) 34 (.int .i64 q) (.int .i64 n) (.string st) (.slice B1 b1 b2) (.slice B m b)
  rw [show (w.alloc (Obj.cells #[.int .i64 S.ver, .slice A S.enums.length c, .slice A2 S.structs.length c2, .int .i64 k, .int .i64 s, .string (bs nm), .slice G g1 g2] 81)).heap.size = w.heap.size + 1 by simp] at D2
  have hab := ab2 w (Obj.cells #[.int .i64 S.ver, .slice A S.enums.length c, .slice A2 S.structs.length c2, .int .i64 k, .int .i64 s, .string (bs nm), .slice G g1 g2] 81) (Obj.cells #[.int .i64 q, .int .i64 n, .string st, .slice B1 b1 b2, .slice B m b] 34)
  go_enter Tryz.func80, Tryz.ntmps80
  go_wp2_with fail
  refine (cS _ hab).mono ?_
  rintro e w2 ⟨v2, rfl, hV2, hb2⟩
  obtain ⟨A3, c3, rfl, hD⟩ := hV2
  have hbx := ab1 w2 (Obj.cells #[.string (bs sT.name), .slice A3 sT.fields.length c3] 53)
  have cM2 := cM A3 c3 _ (Below.next hab (Below.next hb2 hbx)) (hD.next fun x p => FdA.next hbx)
  replace D1 := (D1.next hb2).next hbx
  replace D2 := (D2.next hb2).next hbx
  replace hab := Below.next hab (Below.next hb2 hbx)
  clear cS cM hb2 hbx hD
  have y4 := D2.c 4 rfl
  go_wp2_with fail
  refine cM2.mono ?_
  rintro e w3 ⟨AT, nT, cT, rfl, hb3, hTT⟩
  replace D1 := D1.next hb3
  replace D2 := D2.next hb3
  replace hab := Below.next hab hb3
  clear cM2 hb3 y4
  cases p
  case false =>
    have hr : (13 : Int) = r := by have := HR0.out; simpa using this
    subst hr
    go_wp2_with fail
    go_ret
    exact ⟨rfl, hab⟩
  case true =>
  have HR : Hid (vck.vckf S sT.fields f = r) := Lib.hid (by have := HR0.out; simpa using this)
  clear HR0
  obtain ⟨T, hTe⟩ := HS1.out rfl
  obtain ⟨rfl, hRT⟩ := hTT T hTe
  have hTf := HT.out T hTe
  have hTl : T.length = m := by rw [hTf, List.length_map]; exact HM.out
  rw [hTl]
  have HTF := Lib.hid hTf
  have HTL := Lib.hid hTl
  have HRT := Lib.hid hRT
  have HD1 := Lib.hid D1
  clear hTT hTe hTf hTl hRT HT HS1 D1
  have y4 := D2.c 4 rfl
  have H0 : Hid (vck.vckf S sT.fields (f.take 0) = 0) := Lib.hid (by rw [List.take_zero, vck.vckf])
  go_wp2_with fail
  go_loopw [34] (fun i wr => ∃ kk : Nat, kk ≤ m ∧ i = .int .i64 (kk : Int) ∧ Hid (vck.vckf S sT.fields (f.take kk) = 0) ∧ Hid (Rw TyA 4 wr T AT) ∧ Hid (Bx wr w.heap.size [.int .i64 S.ver, .slice A S.enums.length c, .slice A2 S.structs.length c2, .int .i64 k, .int .i64 s, .string (bs nm), .slice G g1 g2]) ∧ Below w.heap.size w wr) (fun i _ => m - (intOf i).toNat)
  case atStart => exact ⟨0, by omega, rfl, H0, HRT, HD1, hab⟩
  case round =>
    obtain ⟨kk, hkk, rfl, HK, HRw, HX, hb⟩ := hrel
    clear H0 HRT HD1 hab y4 D2
    by_cases hlt : kk < m
    · have hk1 := Lib.hid hlt
      have hkl : kk < f.length := by rw [HM.out]; exact hlt
      have hkT : kk < T.length := by rw [HTL.out]; exact hlt
      obtain ⟨b', rfl, hE⟩ := hR.get hkl
      obtain ⟨s', x0, x1, x2, x3, x4, x5, hrd⟩ := (EtA.next hb _ _ hE).sb
      have hblk' : (b'.add (kk * 6)).block < wr.heap.size := blk_lt x0
      obtain ⟨aT, rfl, hTy⟩ := HRw.out.get hkT
      obtain ⟨hs1, hs2⟩ := HL.out kk hkl
      have hTk : T[kk]'hkT = ((fst_ Fd.num sT.fields (f[kk]'hkl).1).getD fd0).type := by
        have := HTF.out
        subst this
        rw [List.getElem_map]
      have hu : lok (T[kk]'hkT) := by rw [hTk]; exact hL _
      have HN := Lib.hid (fun (h0 : vck S (T[kk]'hkT) (f[kk]'hkl).2 = 0) => show vck.vckf S sT.fields (f.take (kk + 1)) = 0 by rw [vckf_at hkl HK.out, ← hTk]; exact h0)
      have HE := Lib.hid (fun (h0 : vck S (T[kk]'hkT) (f[kk]'hkl).2 ≠ 0) => show vck S (T[kk]'hkT) (f[kk]'hkl).2 = r by rw [← HR.out, vckf_stop hkl HK.out (by rw [← hTk]; exact h0), hTk])
      clear hTk
      generalize T[kk]'hkT = t at *
      generalize (f[kk]'hkl).2 = x at *
      generalize (f[kk]'hkl).1 = y at *
      obtain ⟨z, hz⟩ : ∃ z, vck S t x = z := ⟨_, rfl⟩
      obtain ⟨e0, e1, e2, A4, c4, e3, hVe⟩ := hTy.cells
      have hblkT : (aT.add (kk * 4)).block < wr.heap.size := blk_lt e0
      have cR0 := fun W (h : Below wr.heap.size wr W) => hI t x A c A2 c2 A4 c4 (.agg (encV x s').toArray) W hs1 hu hs2 (Sc.next (Below.next hb h) hS) (hVe.next fun x p => TyA.next h x p) (rdV_iff.2 ⟨s', rfl, hrd.next h⟩)
      rw [hz] at cR0 HN HE
      obtain ⟨ge, hge⟩ : ∃ ge, wr.heap.size = ge := ⟨_, rfl⟩
      have X0 := Bx.new6 wr 94 (.int .i64 y) (.int .i64 x.kind) (.int .i64 x.n) (.string (bs x.s)) (.slice s'.A x.l.length s'.c) (.slice s'.B x.f.length s'.d)
      have hbE := ab1 wr (Obj.cells #[.int .i64 y, .int .i64 x.kind, .int .i64 x.n, .string (bs x.s), .slice s'.A x.l.length s'.c, .slice s'.B x.f.length s'.d] 94)
      have X1 := HX.out.next hbE
      have hb4 := Below.next hb hbE
      have HRw2 := Lib.hid (HRw.out.next fun x p => TyA.next hbE x p)
      clear HK hz hE hrd hs1 hs2 hu hTy hVe
      go_upto_region 8 with (fail)
      have e0 := cell_next hbE e0
      have e1 := cell_next hbE e1
      have e2 := cell_next hbE e2
      have e3 := cell_next hbE e3
      have cR : ∀ W, Below (wr.alloc (Obj.cells #[.int .i64 y, .int .i64 x.kind, .int .i64 x.n, .string (bs x.s), .slice s'.A x.l.length s'.c, .slice s'.B x.f.length s'.d] 94)).heap.size (wr.alloc (Obj.cells #[.int .i64 y, .int .i64 x.kind, .int .i64 x.n, .string (bs x.s), .slice s'.A x.l.length s'.c, .slice s'.B x.f.length s'.d] 94)) W → Calls Tryz.prog 38 #[.agg #[.int .i64 S.ver, .slice A S.enums.length c, .slice A2 S.structs.length c2, .int .i64 t.kind, .int .i64 t.size, .string (bs t.name), .slice A4 t.elem.length c4], (.agg #[.int .i64 x.kind, .int .i64 x.n, .string (bs x.s), .slice s'.A x.l.length s'.c, .slice s'.B x.f.length s'.d])] W (Ib (.int .i64 z) W) := fun W h => cR0 W (Below.next hbE h)
      rw [hge] at X0
      clear cR0
      generalize wr.alloc (Obj.cells #[.int .i64 y, .int .i64 x.kind, .int .i64 x.n, .string (bs x.s), .slice s'.A x.l.length s'.c, .slice s'.B x.f.length s'.d] 94) = w4 at *
      have x1 := X0.c 1 rfl
      have x2 := X0.c 2 rfl
      have x3 := X0.c 3 rfl
      have x4 := X0.c 4 rfl
      have x5 := X0.c 5 rfl
      have i0 := X1.c 0 rfl
      have i1 := X1.c 1 rfl
      have i2 := X1.c 2 rfl
      have hlt := hk1.out
      try rw [hge]
      refine wp_region_on (by kernel_rfl) (FF [(2, Fact.at_ w4 (.pointer (some ⟨w.heap.size, 0, none⟩))), (7, Fact.at_ w4 (.slice (some aT) m cT)), (9, Fact.at_ w4 (.int .i64 (kk : Int))), (10, Fact.at_ w4 (.pointer (some ⟨ge, 0, none⟩))), (39, Fact.at_ w4 (.pointer (some ⟨w.heap.size, 0, none⟩))), (40, Fact.at_ w4 (.agg #[.int .i64 S.ver, .slice A S.enums.length c, .slice A2 S.structs.length c2])), (41, Fact.at_ w4 (.slice (some aT) m cT)), (42, Fact.at_ w4 (.int .i64 (kk : Int))), (43, Fact.at_ w4 (.pointer (some (aT.add (kk * 4))))), (44, Fact.at_ w4 (.agg #[.int .i64 t.kind, .int .i64 t.size, .string (bs t.name), .slice A4 t.elem.length c4])), (45, Fact.at_ w4 (.agg #[.int .i64 S.ver, .slice A S.enums.length c, .slice A2 S.structs.length c2, .int .i64 t.kind, .int .i64 t.size, .string (bs t.name), .slice A4 t.elem.length c4])), (46, Fact.at_ w4 (.pointer (some ⟨ge, 1, none⟩))), (47, Fact.at_ w4 (.agg #[.int .i64 x.kind, .int .i64 x.n, .string (bs x.s), .slice s'.A x.l.length s'.c, .slice s'.B x.f.length s'.d])), (48, Fact.at_ w4 (.int .i64 z)), (11, Fact.at_ w4 (.int .i64 z))]) [2, 7, 9, 10] 53 [39, 40, 41, 42, 43, 44, 45, 46, 47, 48, 11] rfl (by kernel_rfl) (by kernel_rfl) ?_ ?_ ?_
      · intro t9 ht9
        simp only [List.mem_cons, List.not_mem_nil, or_false] at ht9
        rcases ht9 with rfl | rfl | rfl | rfl
        · exact ⟨rfl, Below.refl _ _⟩
        · exact ⟨rfl, Below.refl _ _⟩
        · exact ⟨rfl, Below.refl _ _⟩
        · exact ⟨rfl, Below.refl _ _⟩
      · refine fcs ⟨at1 2 39 (.pointer (some ⟨w.heap.size, 0, none⟩)) (.pointer (some ⟨w.heap.size, 0, none⟩)) rfl (by first | exact .inl rfl | exact .inr ⟨_, _, _, rfl, rfl, by kernel_rfl, by decide, rfl⟩) (by kernel_rfl) rfl rfl (fun a9 W9 hb9 h9 => by simp [execOp, h9] <;> go_simp), ?_⟩
        refine fcs ⟨at1 39 40 (.pointer (some ⟨w.heap.size, 0, none⟩)) (.agg #[.int .i64 S.ver, .slice A S.enums.length c, .slice A2 S.structs.length c2]) rfl (by first | exact .inl rfl | exact .inr ⟨_, _, _, rfl, rfl, by kernel_rfl, by decide, rfl⟩) (by kernel_rfl) rfl rfl (fun a9 W9 hb9 h9 => by have g0 := cell_next hb9 i0; have g1 := cell_next hb9 i1; have g2 := cell_next hb9 i2; simp [execOp, h9] <;> go_simp), ?_⟩
        refine fcs ⟨atcopy 7 41 (.slice (some aT) m cT) (.inl rfl) rfl (by first | exact .inl rfl | exact .inr ⟨_, _, _, rfl, rfl, by kernel_rfl, by decide, rfl⟩) (by kernel_rfl) rfl rfl, ?_⟩
        refine fcs ⟨atcopy 9 42 (.int .i64 (kk : Int)) (.inl rfl) rfl (by first | exact .inl rfl | exact .inr ⟨_, _, _, rfl, rfl, by kernel_rfl, by decide, rfl⟩) (by kernel_rfl) rfl rfl, ?_⟩
        refine fcs ⟨at2 41 42 43 (.slice (some aT) m cT) (.int .i64 (kk : Int)) (.pointer (some (aT.add (kk * 4)))) rfl (by first | exact .inl rfl | exact .inr ⟨_, _, _, rfl, rfl, by kernel_rfl, by decide, rfl⟩) (by kernel_rfl) (by kernel_rfl) rfl rfl rfl (fun a9 W9 hb9 h9 h8 => by simp [execOp, h9, h8] <;> go_simp), ?_⟩
        refine fcs ⟨at1 43 44 (.pointer (some (aT.add (kk * 4)))) (.agg #[.int .i64 t.kind, .int .i64 t.size, .string (bs t.name), .slice A4 t.elem.length c4]) rfl (by first | exact .inl rfl | exact .inr ⟨_, _, _, rfl, rfl, by kernel_rfl, by decide, rfl⟩) (by kernel_rfl) rfl rfl (fun a9 W9 hb9 h9 => by have g0 := cell_next hb9 e0; have g1 := cell_next hb9 e1; have g2 := cell_next hb9 e2; have g3 := cell_next hb9 e3; simp [execOp, h9] <;> go_simp), ?_⟩
        refine fcs ⟨at2 40 44 45 (.agg #[.int .i64 S.ver, .slice A S.enums.length c, .slice A2 S.structs.length c2]) (.agg #[.int .i64 t.kind, .int .i64 t.size, .string (bs t.name), .slice A4 t.elem.length c4]) (.agg #[.int .i64 S.ver, .slice A S.enums.length c, .slice A2 S.structs.length c2, .int .i64 t.kind, .int .i64 t.size, .string (bs t.name), .slice A4 t.elem.length c4]) rfl (by first | exact .inl rfl | exact .inr ⟨_, _, _, rfl, rfl, by kernel_rfl, by decide, rfl⟩) (by kernel_rfl) (by kernel_rfl) rfl rfl rfl (fun a9 W9 hb9 h9 h8 => by simp [execOp, h9, h8] <;> go_simp), ?_⟩
        refine fcs ⟨at1 10 46 (.pointer (some ⟨ge, 0, none⟩)) (.pointer (some ⟨ge, 1, none⟩)) rfl (by first | exact .inl rfl | exact .inr ⟨_, _, _, rfl, rfl, by kernel_rfl, by decide, rfl⟩) (by kernel_rfl) rfl rfl (fun a9 W9 hb9 h9 => by simp [execOp, h9] <;> go_simp), ?_⟩
        refine fcs ⟨at1 46 47 (.pointer (some ⟨ge, 1, none⟩)) (.agg #[.int .i64 x.kind, .int .i64 x.n, .string (bs x.s), .slice s'.A x.l.length s'.c, .slice s'.B x.f.length s'.d]) rfl (by first | exact .inl rfl | exact .inr ⟨_, _, _, rfl, rfl, by kernel_rfl, by decide, rfl⟩) (by kernel_rfl) rfl rfl (fun a9 W9 hb9 h9 => by have g0 := cell_next hb9 x1; have g1 := cell_next hb9 x2; have g2 := cell_next hb9 x3; have g3 := cell_next hb9 x4; have g4 := cell_next hb9 x5; simp [execOp, h9] <;> go_simp), ?_⟩
        refine fcs ⟨atc2 38 45 47 48 (.agg #[.int .i64 S.ver, .slice A S.enums.length c, .slice A2 S.structs.length c2, .int .i64 t.kind, .int .i64 t.size, .string (bs t.name), .slice A4 t.elem.length c4]) (.agg #[.int .i64 x.kind, .int .i64 x.n, .string (bs x.s), .slice s'.A x.l.length s'.c, .slice s'.B x.f.length s'.d]) (.int .i64 z) _ rfl rfl (by first | exact .inl rfl | exact .inr ⟨_, _, _, rfl, rfl, by kernel_rfl, by decide, rfl⟩) (by kernel_rfl) (by kernel_rfl) rfl rfl (by kernel_rfl) rfl (fun W9 hb9 => cR W9 hb9), ?_⟩
        refine fcs ⟨atcopy 48 11 (.int .i64 z) (.inr rfl) rfl (by first | exact .inl rfl | exact .inr ⟨_, _, _, rfl, rfl, by kernel_rfl, by decide, rfl⟩) (by kernel_rfl) rfl rfl, ?_⟩
        exact fnl
      intro vv wv hvv hbv
      have hv11 : vv 11 = (.int .i64 z) := (hvv 11 (by decide)).1
      simp only [lay, List.foldl_cons, List.foldl_nil, List.setIfInBounds_toArray, List.set_cons_succ, List.set_cons_zero, hv11]
      have X2 := X1.next hbv
      have hb5 := Below.next hb4 hbv
      have HRw3 := Lib.hid (HRw2.out.next fun x p => TyA.next hbv x p)
      clear hvv e0 e1 e2 e3 x1 x2 x3 x4 x5 i0 i1 i2 cR X0 X1 hbE
      by_cases h0 : z = 0
      · have HN2 := Lib.hid (HN.out h0)
        subst h0
        clear HN HE
        go_wp2_with fail
        go_roundw
        case rel => exact ⟨kk + 1, hk1.out, by go_num, HN2, HRw3, Lib.hid X2, hb5⟩
        case measure => have := hk1.out; simp [intOf]; omega
      · have HE2 := HE.out h0
        have qz : (z != 0) = true := by simpa using h0
        subst HE2
        clear HN HE h0
        go_wp2_with fail
        go_ret
        exact ⟨rfl, hb5⟩
    · obtain rfl : kk = m := by omega
      have hr0 : r = 0 := by rw [← HR.out, ← HK.out, ← HM.out, List.take_length]
      subst hr0
      clear HK
      go_wp2_with fail
      go_ret
      exact ⟨rfl, hb⟩
end Go.Proofs.YthfodpbecddheaaGreatDoor
/-
  The developers' check, kind by kind. No conditions beyond those that each names.
-/
namespace Go.Proofs.YthfodpbecddheaaGreatDoor
open Go.RowKit
set_option maxRecDepth 100000 in
set_option maxHeartbeats 8000000 in
theorem check1_any (ver : Int) (E : Option Addr) (e1 e2 : Nat) (F : Option Addr) (f1 f2 : Nat) (s : Int) (nm : ByteArray) (G : Option Addr) (g1 g2 : Nat) (q n : Int) (st : List UInt8) (A : Option Addr) (a1 a2 : Nat) (B : Option Addr) (b1 b2 : Nat) (r : Int) (w : World)
    (cA : ∀ W, Below w.heap.size w W → Calls Tryz.prog 74 #[.agg #[.int .i64 ver, .slice E e1 e2, .slice F f1 f2, .int .i64 1, .int .i64 s, .string nm, .slice G g1 g2], .agg #[.int .i64 q, .int .i64 n, .string (bs st), .slice A a1 a2, .slice B b1 b2], .func (.func 75) #[.agg #[.int .i64 ver, .slice E e1 e2, .slice F f1 f2, .int .i64 1, .int .i64 s, .string nm, .slice G g1 g2]] #[]] W (Ib (.int .i64 r) W)) :
    Calls Tryz.prog 38 #[.agg #[.int .i64 ver, .slice E e1 e2, .slice F f1 f2, .int .i64 1, .int .i64 s, .string nm, .slice G g1 g2], .agg #[.int .i64 q, .int .i64 n, .string (bs st), .slice A a1 a2, .slice B b1 b2]] w (Ib (.int .i64 r) w) := by
  have D1 := (Bx.new7 w 81 (.int .i64 ver) (.slice E e1 e2) (.slice F f1 f2) (.int .i64 1) (.int .i64 s) (.string nm) (.slice G g1 g2)).next (ab1 _ (Obj.cells #[.int .i64 q, .int .i64 n, .string (bs st), .slice A a1 a2, .slice B b1 b2] 34))
  have D2 := Bx.new5 (w.alloc (Obj.cells #[.int .i64 ver, .slice E e1 e2, .slice F f1 f2, .int .i64 1, .int .i64 s, .string nm, .slice G g1 g2] 81)) 34 (.int .i64 q) (.int .i64 n) (.string (bs st)) (.slice A a1 a2) (.slice B b1 b2)
  have hab := ab2 w (Obj.cells #[.int .i64 ver, .slice E e1 e2, .slice F f1 f2, .int .i64 1, .int .i64 s, .string nm, .slice G g1 g2] 81) (Obj.cells #[.int .i64 q, .int .i64 n, .string (bs st), .slice A a1 a2, .slice B b1 b2] 34)
  rw [show (w.alloc (Obj.cells #[.int .i64 ver, .slice E e1 e2, .slice F f1 f2, .int .i64 1, .int .i64 s, .string nm, .slice G g1 g2] 81)).heap.size = w.heap.size + 1 by simp] at D2
  have i0 := D1.c 0 rfl
  have i1 := D1.c 1 rfl
  have i2 := D1.c 2 rfl
  have i3 := D1.c 3 rfl
  have i4 := D1.c 4 rfl
  have i5 := D1.c 5 rfl
  have i6 := D1.c 6 rfl
  have j0 := D2.c 0 rfl
  have j1 := D2.c 1 rfl
  have j2 := D2.c 2 rfl
  have j3 := D2.c 3 rfl
  have j4 := D2.c 4 rfl
  clear D1 D2
  go_enter Tryz.func38, Tryz.ntmps38
  go_wp2_with fail
  refine (cA _ hab).mono ?_
  rintro e w2 ⟨rfl, hb2⟩
  go_wp2_with fail
  go_ret
  exact ⟨rfl, Below.next hab hb2⟩
set_option maxRecDepth 100000 in
set_option maxHeartbeats 8000000 in
theorem check2_any (ver : Int) (E : Option Addr) (e1 e2 : Nat) (F : Option Addr) (f1 f2 : Nat) (s : Int) (nm : ByteArray) (G : Option Addr) (g1 g2 : Nat) (q n : Int) (st : List UInt8) (A : Option Addr) (a1 a2 : Nat) (B : Option Addr) (b1 b2 : Nat) (r : Int) (w : World)
    (cA : ∀ W, Below w.heap.size w W → Calls Tryz.prog 74 #[.agg #[.int .i64 ver, .slice E e1 e2, .slice F f1 f2, .int .i64 2, .int .i64 s, .string nm, .slice G g1 g2], .agg #[.int .i64 q, .int .i64 n, .string (bs st), .slice A a1 a2, .slice B b1 b2], .func (.func 76) #[.agg #[.int .i64 ver, .slice E e1 e2, .slice F f1 f2, .int .i64 2, .int .i64 s, .string nm, .slice G g1 g2]] #[]] W (Ib (.int .i64 r) W)) :
    Calls Tryz.prog 38 #[.agg #[.int .i64 ver, .slice E e1 e2, .slice F f1 f2, .int .i64 2, .int .i64 s, .string nm, .slice G g1 g2], .agg #[.int .i64 q, .int .i64 n, .string (bs st), .slice A a1 a2, .slice B b1 b2]] w (Ib (.int .i64 r) w) := by
  have D1 := (Bx.new7 w 81 (.int .i64 ver) (.slice E e1 e2) (.slice F f1 f2) (.int .i64 2) (.int .i64 s) (.string nm) (.slice G g1 g2)).next (ab1 _ (Obj.cells #[.int .i64 q, .int .i64 n, .string (bs st), .slice A a1 a2, .slice B b1 b2] 34))
  have D2 := Bx.new5 (w.alloc (Obj.cells #[.int .i64 ver, .slice E e1 e2, .slice F f1 f2, .int .i64 2, .int .i64 s, .string nm, .slice G g1 g2] 81)) 34 (.int .i64 q) (.int .i64 n) (.string (bs st)) (.slice A a1 a2) (.slice B b1 b2)
  have hab := ab2 w (Obj.cells #[.int .i64 ver, .slice E e1 e2, .slice F f1 f2, .int .i64 2, .int .i64 s, .string nm, .slice G g1 g2] 81) (Obj.cells #[.int .i64 q, .int .i64 n, .string (bs st), .slice A a1 a2, .slice B b1 b2] 34)
  rw [show (w.alloc (Obj.cells #[.int .i64 ver, .slice E e1 e2, .slice F f1 f2, .int .i64 2, .int .i64 s, .string nm, .slice G g1 g2] 81)).heap.size = w.heap.size + 1 by simp] at D2
  have i0 := D1.c 0 rfl
  have i1 := D1.c 1 rfl
  have i2 := D1.c 2 rfl
  have i3 := D1.c 3 rfl
  have i4 := D1.c 4 rfl
  have i5 := D1.c 5 rfl
  have i6 := D1.c 6 rfl
  have j0 := D2.c 0 rfl
  have j1 := D2.c 1 rfl
  have j2 := D2.c 2 rfl
  have j3 := D2.c 3 rfl
  have j4 := D2.c 4 rfl
  clear D1 D2
  go_enter Tryz.func38, Tryz.ntmps38
  go_wp2_with fail
  refine (cA _ hab).mono ?_
  rintro e w2 ⟨rfl, hb2⟩
  go_wp2_with fail
  go_ret
  exact ⟨rfl, Below.next hab hb2⟩
set_option maxRecDepth 100000 in
set_option maxHeartbeats 8000000 in
theorem check3_any (ver : Int) (E : Option Addr) (e1 e2 : Nat) (F : Option Addr) (f1 f2 : Nat) (s : Int) (nm : ByteArray) (G : Option Addr) (g1 g2 : Nat) (q n : Int) (st : List UInt8) (A : Option Addr) (a1 a2 : Nat) (B : Option Addr) (b1 b2 : Nat) (r : Int) (w : World)
    (cA : ∀ W, Below w.heap.size w W → Calls Tryz.prog 74 #[.agg #[.int .i64 ver, .slice E e1 e2, .slice F f1 f2, .int .i64 3, .int .i64 s, .string nm, .slice G g1 g2], .agg #[.int .i64 q, .int .i64 n, .string (bs st), .slice A a1 a2, .slice B b1 b2], .func (.func 77) #[.agg #[.int .i64 ver, .slice E e1 e2, .slice F f1 f2, .int .i64 3, .int .i64 s, .string nm, .slice G g1 g2]] #[]] W (Ib (.int .i64 r) W)) :
    Calls Tryz.prog 38 #[.agg #[.int .i64 ver, .slice E e1 e2, .slice F f1 f2, .int .i64 3, .int .i64 s, .string nm, .slice G g1 g2], .agg #[.int .i64 q, .int .i64 n, .string (bs st), .slice A a1 a2, .slice B b1 b2]] w (Ib (.int .i64 r) w) := by
  have D1 := (Bx.new7 w 81 (.int .i64 ver) (.slice E e1 e2) (.slice F f1 f2) (.int .i64 3) (.int .i64 s) (.string nm) (.slice G g1 g2)).next (ab1 _ (Obj.cells #[.int .i64 q, .int .i64 n, .string (bs st), .slice A a1 a2, .slice B b1 b2] 34))
  have D2 := Bx.new5 (w.alloc (Obj.cells #[.int .i64 ver, .slice E e1 e2, .slice F f1 f2, .int .i64 3, .int .i64 s, .string nm, .slice G g1 g2] 81)) 34 (.int .i64 q) (.int .i64 n) (.string (bs st)) (.slice A a1 a2) (.slice B b1 b2)
  have hab := ab2 w (Obj.cells #[.int .i64 ver, .slice E e1 e2, .slice F f1 f2, .int .i64 3, .int .i64 s, .string nm, .slice G g1 g2] 81) (Obj.cells #[.int .i64 q, .int .i64 n, .string (bs st), .slice A a1 a2, .slice B b1 b2] 34)
  rw [show (w.alloc (Obj.cells #[.int .i64 ver, .slice E e1 e2, .slice F f1 f2, .int .i64 3, .int .i64 s, .string nm, .slice G g1 g2] 81)).heap.size = w.heap.size + 1 by simp] at D2
  have i0 := D1.c 0 rfl
  have i1 := D1.c 1 rfl
  have i2 := D1.c 2 rfl
  have i3 := D1.c 3 rfl
  have i4 := D1.c 4 rfl
  have i5 := D1.c 5 rfl
  have i6 := D1.c 6 rfl
  have j0 := D2.c 0 rfl
  have j1 := D2.c 1 rfl
  have j2 := D2.c 2 rfl
  have j3 := D2.c 3 rfl
  have j4 := D2.c 4 rfl
  clear D1 D2
  go_enter Tryz.func38, Tryz.ntmps38
  go_wp2_with fail
  refine (cA _ hab).mono ?_
  rintro e w2 ⟨rfl, hb2⟩
  go_wp2_with fail
  go_ret
  exact ⟨rfl, Below.next hab hb2⟩
set_option maxRecDepth 100000 in
set_option maxHeartbeats 8000000 in
theorem check4_any (ver : Int) (E : Option Addr) (e1 e2 : Nat) (F : Option Addr) (f1 f2 : Nat) (s : Int) (nm : ByteArray) (G : Option Addr) (g1 g2 : Nat) (q n : Int) (st : List UInt8) (A : Option Addr) (a1 a2 : Nat) (B : Option Addr) (b1 b2 : Nat) (r : Int) (w : World)
    (cA : ∀ W, Below w.heap.size w W → Calls Tryz.prog 74 #[.agg #[.int .i64 ver, .slice E e1 e2, .slice F f1 f2, .int .i64 4, .int .i64 s, .string nm, .slice G g1 g2], .agg #[.int .i64 q, .int .i64 n, .string (bs st), .slice A a1 a2, .slice B b1 b2], .func (.func 78) #[.agg #[.int .i64 ver, .slice E e1 e2, .slice F f1 f2, .int .i64 4, .int .i64 s, .string nm, .slice G g1 g2]] #[]] W (Ib (.int .i64 r) W)) :
    Calls Tryz.prog 38 #[.agg #[.int .i64 ver, .slice E e1 e2, .slice F f1 f2, .int .i64 4, .int .i64 s, .string nm, .slice G g1 g2], .agg #[.int .i64 q, .int .i64 n, .string (bs st), .slice A a1 a2, .slice B b1 b2]] w (Ib (.int .i64 r) w) := by
  have D1 := (Bx.new7 w 81 (.int .i64 ver) (.slice E e1 e2) (.slice F f1 f2) (.int .i64 4) (.int .i64 s) (.string nm) (.slice G g1 g2)).next (ab1 _ (Obj.cells #[.int .i64 q, .int .i64 n, .string (bs st), .slice A a1 a2, .slice B b1 b2] 34))
  have D2 := Bx.new5 (w.alloc (Obj.cells #[.int .i64 ver, .slice E e1 e2, .slice F f1 f2, .int .i64 4, .int .i64 s, .string nm, .slice G g1 g2] 81)) 34 (.int .i64 q) (.int .i64 n) (.string (bs st)) (.slice A a1 a2) (.slice B b1 b2)
  have hab := ab2 w (Obj.cells #[.int .i64 ver, .slice E e1 e2, .slice F f1 f2, .int .i64 4, .int .i64 s, .string nm, .slice G g1 g2] 81) (Obj.cells #[.int .i64 q, .int .i64 n, .string (bs st), .slice A a1 a2, .slice B b1 b2] 34)
  rw [show (w.alloc (Obj.cells #[.int .i64 ver, .slice E e1 e2, .slice F f1 f2, .int .i64 4, .int .i64 s, .string nm, .slice G g1 g2] 81)).heap.size = w.heap.size + 1 by simp] at D2
  have i0 := D1.c 0 rfl
  have i1 := D1.c 1 rfl
  have i2 := D1.c 2 rfl
  have i3 := D1.c 3 rfl
  have i4 := D1.c 4 rfl
  have i5 := D1.c 5 rfl
  have i6 := D1.c 6 rfl
  have j0 := D2.c 0 rfl
  have j1 := D2.c 1 rfl
  have j2 := D2.c 2 rfl
  have j3 := D2.c 3 rfl
  have j4 := D2.c 4 rfl
  clear D1 D2
  go_enter Tryz.func38, Tryz.ntmps38
  go_wp2_with fail
  refine (cA _ hab).mono ?_
  rintro e w2 ⟨rfl, hb2⟩
  go_wp2_with fail
  go_ret
  exact ⟨rfl, Below.next hab hb2⟩
set_option maxRecDepth 100000 in
set_option maxHeartbeats 8000000 in
theorem check5_any (ver : Int) (E : Option Addr) (e1 e2 : Nat) (F : Option Addr) (f1 f2 : Nat) (s : Int) (nm : ByteArray) (G : Option Addr) (g1 g2 : Nat) (q n : Int) (st : List UInt8) (A : Option Addr) (a1 a2 : Nat) (B : Option Addr) (b1 b2 : Nat) (r : Int) (w : World)
    (cA : ∀ W, Below w.heap.size w W → Calls Tryz.prog 74 #[.agg #[.int .i64 ver, .slice E e1 e2, .slice F f1 f2, .int .i64 5, .int .i64 s, .string nm, .slice G g1 g2], .agg #[.int .i64 q, .int .i64 n, .string (bs st), .slice A a1 a2, .slice B b1 b2], .func (.func 79) #[.agg #[.int .i64 ver, .slice E e1 e2, .slice F f1 f2, .int .i64 5, .int .i64 s, .string nm, .slice G g1 g2]] #[]] W (Ib (.int .i64 r) W)) :
    Calls Tryz.prog 38 #[.agg #[.int .i64 ver, .slice E e1 e2, .slice F f1 f2, .int .i64 5, .int .i64 s, .string nm, .slice G g1 g2], .agg #[.int .i64 q, .int .i64 n, .string (bs st), .slice A a1 a2, .slice B b1 b2]] w (Ib (.int .i64 r) w) := by
  have D1 := (Bx.new7 w 81 (.int .i64 ver) (.slice E e1 e2) (.slice F f1 f2) (.int .i64 5) (.int .i64 s) (.string nm) (.slice G g1 g2)).next (ab1 _ (Obj.cells #[.int .i64 q, .int .i64 n, .string (bs st), .slice A a1 a2, .slice B b1 b2] 34))
  have D2 := Bx.new5 (w.alloc (Obj.cells #[.int .i64 ver, .slice E e1 e2, .slice F f1 f2, .int .i64 5, .int .i64 s, .string nm, .slice G g1 g2] 81)) 34 (.int .i64 q) (.int .i64 n) (.string (bs st)) (.slice A a1 a2) (.slice B b1 b2)
  have hab := ab2 w (Obj.cells #[.int .i64 ver, .slice E e1 e2, .slice F f1 f2, .int .i64 5, .int .i64 s, .string nm, .slice G g1 g2] 81) (Obj.cells #[.int .i64 q, .int .i64 n, .string (bs st), .slice A a1 a2, .slice B b1 b2] 34)
  rw [show (w.alloc (Obj.cells #[.int .i64 ver, .slice E e1 e2, .slice F f1 f2, .int .i64 5, .int .i64 s, .string nm, .slice G g1 g2] 81)).heap.size = w.heap.size + 1 by simp] at D2
  have i0 := D1.c 0 rfl
  have i1 := D1.c 1 rfl
  have i2 := D1.c 2 rfl
  have i3 := D1.c 3 rfl
  have i4 := D1.c 4 rfl
  have i5 := D1.c 5 rfl
  have i6 := D1.c 6 rfl
  have j0 := D2.c 0 rfl
  have j1 := D2.c 1 rfl
  have j2 := D2.c 2 rfl
  have j3 := D2.c 3 rfl
  have j4 := D2.c 4 rfl
  clear D1 D2
  go_enter Tryz.func38, Tryz.ntmps38
  go_wp2_with fail
  refine (cA _ hab).mono ?_
  rintro e w2 ⟨rfl, hb2⟩
  go_wp2_with fail
  go_ret
  exact ⟨rfl, Below.next hab hb2⟩
set_option maxRecDepth 100000 in
set_option maxHeartbeats 8000000 in
theorem check6_any (ver : Int) (E : Option Addr) (e1 e2 : Nat) (F : Option Addr) (f1 f2 : Nat) (s : Int) (nm : ByteArray) (G : Option Addr) (g1 g2 : Nat) (q n : Int) (st : List UInt8) (A : Option Addr) (a1 a2 : Nat) (B : Option Addr) (b1 b2 : Nat) (r : Int) (w : World)
    (cA : ∀ W, Below w.heap.size w W → Calls Tryz.prog 74 #[.agg #[.int .i64 ver, .slice E e1 e2, .slice F f1 f2, .int .i64 6, .int .i64 s, .string nm, .slice G g1 g2], .agg #[.int .i64 q, .int .i64 n, .string (bs st), .slice A a1 a2, .slice B b1 b2], .func (.func 80) #[.agg #[.int .i64 ver, .slice E e1 e2, .slice F f1 f2, .int .i64 6, .int .i64 s, .string nm, .slice G g1 g2]] #[]] W (Ib (.int .i64 r) W)) :
    Calls Tryz.prog 38 #[.agg #[.int .i64 ver, .slice E e1 e2, .slice F f1 f2, .int .i64 6, .int .i64 s, .string nm, .slice G g1 g2], .agg #[.int .i64 q, .int .i64 n, .string (bs st), .slice A a1 a2, .slice B b1 b2]] w (Ib (.int .i64 r) w) := by
  have D1 := (Bx.new7 w 81 (.int .i64 ver) (.slice E e1 e2) (.slice F f1 f2) (.int .i64 6) (.int .i64 s) (.string nm) (.slice G g1 g2)).next (ab1 _ (Obj.cells #[.int .i64 q, .int .i64 n, .string (bs st), .slice A a1 a2, .slice B b1 b2] 34))
  have D2 := Bx.new5 (w.alloc (Obj.cells #[.int .i64 ver, .slice E e1 e2, .slice F f1 f2, .int .i64 6, .int .i64 s, .string nm, .slice G g1 g2] 81)) 34 (.int .i64 q) (.int .i64 n) (.string (bs st)) (.slice A a1 a2) (.slice B b1 b2)
  have hab := ab2 w (Obj.cells #[.int .i64 ver, .slice E e1 e2, .slice F f1 f2, .int .i64 6, .int .i64 s, .string nm, .slice G g1 g2] 81) (Obj.cells #[.int .i64 q, .int .i64 n, .string (bs st), .slice A a1 a2, .slice B b1 b2] 34)
  rw [show (w.alloc (Obj.cells #[.int .i64 ver, .slice E e1 e2, .slice F f1 f2, .int .i64 6, .int .i64 s, .string nm, .slice G g1 g2] 81)).heap.size = w.heap.size + 1 by simp] at D2
  have i0 := D1.c 0 rfl
  have i1 := D1.c 1 rfl
  have i2 := D1.c 2 rfl
  have i3 := D1.c 3 rfl
  have i4 := D1.c 4 rfl
  have i5 := D1.c 5 rfl
  have i6 := D1.c 6 rfl
  have j0 := D2.c 0 rfl
  have j1 := D2.c 1 rfl
  have j2 := D2.c 2 rfl
  have j3 := D2.c 3 rfl
  have j4 := D2.c 4 rfl
  clear D1 D2
  go_enter Tryz.func38, Tryz.ntmps38
  go_wp2_with fail
  refine (cA _ hab).mono ?_
  rintro e w2 ⟨rfl, hb2⟩
  go_wp2_with fail
  go_ret
  exact ⟨rfl, Below.next hab hb2⟩
set_option maxRecDepth 100000 in
set_option maxHeartbeats 8000000 in
theorem check7_any (ver : Int) (E : Option Addr) (e1 e2 : Nat) (F : Option Addr) (f1 f2 : Nat) (s : Int) (nm : ByteArray) (G : Option Addr) (g1 g2 : Nat) (q n : Int) (st : List UInt8) (A : Option Addr) (a1 a2 : Nat) (B : Option Addr) (b1 b2 : Nat) (r : Int) (w : World)
    (cA : ∀ W, Below w.heap.size w W → Calls Tryz.prog 74 #[.agg #[.int .i64 ver, .slice E e1 e2, .slice F f1 f2, .int .i64 7, .int .i64 s, .string nm, .slice G g1 g2], .agg #[.int .i64 q, .int .i64 n, .string (bs st), .slice A a1 a2, .slice B b1 b2], .func (.func 81) #[.agg #[.int .i64 ver, .slice E e1 e2, .slice F f1 f2, .int .i64 7, .int .i64 s, .string nm, .slice G g1 g2]] #[]] W (Ib (.int .i64 r) W)) :
    Calls Tryz.prog 38 #[.agg #[.int .i64 ver, .slice E e1 e2, .slice F f1 f2, .int .i64 7, .int .i64 s, .string nm, .slice G g1 g2], .agg #[.int .i64 q, .int .i64 n, .string (bs st), .slice A a1 a2, .slice B b1 b2]] w (Ib (.int .i64 r) w) := by
  have D1 := (Bx.new7 w 81 (.int .i64 ver) (.slice E e1 e2) (.slice F f1 f2) (.int .i64 7) (.int .i64 s) (.string nm) (.slice G g1 g2)).next (ab1 _ (Obj.cells #[.int .i64 q, .int .i64 n, .string (bs st), .slice A a1 a2, .slice B b1 b2] 34))
  have D2 := Bx.new5 (w.alloc (Obj.cells #[.int .i64 ver, .slice E e1 e2, .slice F f1 f2, .int .i64 7, .int .i64 s, .string nm, .slice G g1 g2] 81)) 34 (.int .i64 q) (.int .i64 n) (.string (bs st)) (.slice A a1 a2) (.slice B b1 b2)
  have hab := ab2 w (Obj.cells #[.int .i64 ver, .slice E e1 e2, .slice F f1 f2, .int .i64 7, .int .i64 s, .string nm, .slice G g1 g2] 81) (Obj.cells #[.int .i64 q, .int .i64 n, .string (bs st), .slice A a1 a2, .slice B b1 b2] 34)
  rw [show (w.alloc (Obj.cells #[.int .i64 ver, .slice E e1 e2, .slice F f1 f2, .int .i64 7, .int .i64 s, .string nm, .slice G g1 g2] 81)).heap.size = w.heap.size + 1 by simp] at D2
  have i0 := D1.c 0 rfl
  have i1 := D1.c 1 rfl
  have i2 := D1.c 2 rfl
  have i3 := D1.c 3 rfl
  have i4 := D1.c 4 rfl
  have i5 := D1.c 5 rfl
  have i6 := D1.c 6 rfl
  have j0 := D2.c 0 rfl
  have j1 := D2.c 1 rfl
  have j2 := D2.c 2 rfl
  have j3 := D2.c 3 rfl
  have j4 := D2.c 4 rfl
  clear D1 D2
  go_enter Tryz.func38, Tryz.ntmps38
  go_wp2_with fail
  refine (cA _ hab).mono ?_
  rintro e w2 ⟨rfl, hb2⟩
  go_wp2_with fail
  go_ret
  exact ⟨rfl, Below.next hab hb2⟩
set_option maxRecDepth 100000 in
set_option maxHeartbeats 8000000 in
theorem checko_any (ver : Int) (E : Option Addr) (e1 e2 : Nat) (F : Option Addr) (f1 f2 : Nat) (k : Int) (s : Int) (nm : ByteArray) (G : Option Addr) (g1 g2 : Nat) (q n : Int) (st : List UInt8) (A : Option Addr) (a1 a2 : Nat) (B : Option Addr) (b1 b2 : Nat) (w : World) (k1 : k ≠ 1) (k2 : k ≠ 2) (k3 : k ≠ 3) (k4 : k ≠ 4) (k5 : k ≠ 5) (k6 : k ≠ 6) (k7 : k ≠ 7) :
    Calls Tryz.prog 38 #[.agg #[.int .i64 ver, .slice E e1 e2, .slice F f1 f2, .int .i64 k, .int .i64 s, .string nm, .slice G g1 g2], .agg #[.int .i64 q, .int .i64 n, .string (bs st), .slice A a1 a2, .slice B b1 b2]] w (Ib (.int .i64 13) w) := by
  have D1 := (Bx.new7 w 81 (.int .i64 ver) (.slice E e1 e2) (.slice F f1 f2) (.int .i64 k) (.int .i64 s) (.string nm) (.slice G g1 g2)).next (ab1 _ (Obj.cells #[.int .i64 q, .int .i64 n, .string (bs st), .slice A a1 a2, .slice B b1 b2] 34))
  have D2 := Bx.new5 (w.alloc (Obj.cells #[.int .i64 ver, .slice E e1 e2, .slice F f1 f2, .int .i64 k, .int .i64 s, .string nm, .slice G g1 g2] 81)) 34 (.int .i64 q) (.int .i64 n) (.string (bs st)) (.slice A a1 a2) (.slice B b1 b2)
  have hab := ab2 w (Obj.cells #[.int .i64 ver, .slice E e1 e2, .slice F f1 f2, .int .i64 k, .int .i64 s, .string nm, .slice G g1 g2] 81) (Obj.cells #[.int .i64 q, .int .i64 n, .string (bs st), .slice A a1 a2, .slice B b1 b2] 34)
  rw [show (w.alloc (Obj.cells #[.int .i64 ver, .slice E e1 e2, .slice F f1 f2, .int .i64 k, .int .i64 s, .string nm, .slice G g1 g2] 81)).heap.size = w.heap.size + 1 by simp] at D2
  have i0 := D1.c 0 rfl
  have i1 := D1.c 1 rfl
  have i2 := D1.c 2 rfl
  have i3 := D1.c 3 rfl
  have i4 := D1.c 4 rfl
  have i5 := D1.c 5 rfl
  have i6 := D1.c 6 rfl
  have j0 := D2.c 0 rfl
  have j1 := D2.c 1 rfl
  have j2 := D2.c 2 rfl
  have j3 := D2.c 3 rfl
  have j4 := D2.c 4 rfl
  clear D1 D2
  have q1 : (k == 1) = false := by simpa using k1
  have q2 : (k == 2) = false := by simpa using k2
  have q3 : (k == 3) = false := by simpa using k3
  have q4 : (k == 4) = false := by simpa using k4
  have q5 : (k == 5) = false := by simpa using k5
  have q6 : (k == 6) = false := by simpa using k6
  have q7 : (k == 7) = false := by simpa using k7
  clear k1 k2 k3 k4 k5 k6 k7
  go_enter Tryz.func38, Tryz.ntmps38
  go_wp2_with fail
  go_ret
  exact ⟨rfl, hab⟩
end Go.Proofs.YthfodpbecddheaaGreatDoor

