/-
  Lists of names that a call owns. No conditions beyond those that each names.
-/
import Derived.Test.YthbhbpcjcnkkkaaGreatDoorM09
import Derived.Test.YthbhbpcjcnkkkaaGreatDoorM03
import Derived.Test.YthbhbpcjcnkkkaaGreatDoorM10
import Derived.Sort.EncStr
import Derived.Sort.Walk0
import Derived.Maps.AppendAt
import Derived.Test.YthbhbpcjcnkkkaaGreatDoorM05
import Derived.Test.YthbhbpcjcnkkkaaGreatDoorM06
namespace Go.Proofs.YthbhbpcjcnkkkaaGreatDoor
open Go.RowKit Go.Maps
/-- The slice v owns the names l. -/
def Wn (B : Nat) (w : World) (v : Value) (l : List (List UInt8)) : Prop := w.ownsRow B 9 1 v l.length (l.map encStr)
theorem Wn.nil (B : Nat) (w : World) : Wn B w (.slice none 0 0) [] := World.ownsRow_nil _ _ _ _
theorem Wn.other {B : Nat} {w w' : World} {v : Value} {l : List (List UInt8)} (h : Wn B w v l) (hb : Below w.heap.size w w') : Wn B w' v l := by
  unfold Wn World.ownsRow at *
  refine ⟨h.1, ?_⟩
  rcases h.2 with h1 | ⟨g, cap, cur, h1, h2, h3, h4⟩
  · exact .inl h1
  · refine .inr ⟨g, cap, cur, h1, h2, ?_, h4⟩
    rw [hb.block g (Array.getElem?_eq_some_iff.1 h3).1]
    exact h3
theorem Wn.nms {B : Nat} {w : World} {v : Value} {l : List (List UInt8)} (h : Wn B w v l) : Nms w l v := by
  have h1 := h
  obtain ⟨-, ⟨h2, h3⟩ | ⟨g, cap, cur, rfl, hB, hg, -⟩⟩ := h
  · subst h2
    obtain rfl := List.eq_nil_of_length_eq_zero h3
    exact ⟨none, 0, rfl, .inl rfl⟩
  · refine ⟨_, _, rfl, .inr ⟨_, rfl, fun i hi => ?_⟩⟩
    rw [Nat.mul_one]
    exact World.ownsRow.cells h1 (g := g) rfl i _ (by simp [List.getElem?_eq_getElem hi, encStr, bs])
/-- A slice literal of one name. -/
theorem Wn.lit {B : Nat} (w : World) (x : List UInt8) {g : Nat} (hg : w.heap.size = g) (hB : B ≤ w.heap.size) : Wn B (w.alloc (.cells #[.string (bs x)] 9)) (.slice (some ⟨g, 0, none⟩) 1 1) [x] := by
  subst hg
  exact ⟨rfl, .inr ⟨w.heap.size, 1, _, rfl, hB, heap_alloc_new w _, Nat.le_refl 1, by decide, rfl, rfl⟩⟩
theorem Wn.low {B : Nat} {w w' : World} {v : Value} {l : List (List UInt8)} (h : Wn B w v l) (hg : w.grownBy w' v.ownBlock) (hs : B ≤ w.heap.size) : Below B w w' :=
  ⟨hg.os, hg.tape, hg.output, hg.size, fun k hk => hg.block k (Nat.lt_of_lt_of_le hk hs) (fun e => by
    rcases h.2 with ⟨rfl, _⟩ | ⟨g, cap, cur, rfl, hB, _⟩
    · simp [Value.ownBlock] at e
    · simp [Value.ownBlock] at e; omega)⟩
theorem infoS : (Tryz.prog.info? 9).map (fun i => (i.zero, i.size, i.bytes)) = some (some (.string ⟨#[]⟩), 1, 16) := by kernel_rfl
theorem wpList_pushN {w : World} {ops : Array Oper} {rest : List Oper} {o : Oper} {a : Act} {Q : Exit → Act → World → Prop} (hgd : o.guard = none) (s x : Operand)
    (ho : o.op = .call { callee := .builtin .append, args := #[s, x], argTypes := #[35, 35] }) (B : Nat) (v : Value) (l : List (List UInt8)) (b : List UInt8) (ad : Addr) (d : Nat) (hs : a.eval s = v) (hx : a.eval x = .slice (some ad) 1 d)
    (hown : Wn B w v l) (hc : w.cell? ad = some (.string (bs b))) (hm : l.length ≤ 100000) (hB : B ≤ w.heap.size)
    (h : ∀ v' w', Wn B w' v' (l ++ [b]) → w.grownBy w' v.ownBlock → (v'.ownBlock = v.ownBlock ∨ v'.ownBlock = some w.heap.size) → wpList Tryz.prog ops Q rest (a.put o.dst v') w') : wpList Tryz.prog ops Q (o :: rest) a w := by
  obtain ⟨i, hi, hz, hs5, hby⟩ := info_parts infoS
  refine wpList_append_own_at w hgd s x 35 ho B 9 i _ 1 16 Tryz.underlying35 hi hz hs5 hby rfl (by omega) v l.length (l.map encStr) hs hown ad 1 d [.string (bs b)] hx rfl
    (by intro j u hj
        cases j with
        | zero => simp at hj; subst hj; rw [Addr.add_zero']; exact hc
        | succ j => simp at hj) (by simp [Value.oneCell']) (by simp only [maxLen]; omega) (by omega) hB ?_
  intro v' w' h1 h2 _ h4
  refine h v' w' ?_ h2 h4
  unfold Wn
  rw [show (l ++ [b]).map encStr = l.map encStr ++ [.string (bs b)] by simp [encStr, bs], List.length_append]
  exact h1
/-- A list put behind the empty one. -/
theorem wpList_pushAll {w : World} {ops : Array Oper} {rest : List Oper} {o : Oper} {a : Act} {Q : Exit → Act → World → Prop} (hgd : o.guard = none) (s x : Operand)
    (ho : o.op = .call { callee := .builtin .append, args := #[s, x], argTypes := #[35, 35] }) (B : Nat) (m : List (List UInt8)) (u : Value) (hs : a.eval s = .slice none 0 0) (hx : a.eval x = u)
    (hm : Nms w m u) (hl : m.length ≤ 100000) (hB : B ≤ w.heap.size)
    (h : ∀ v' w', Wn B w' v' m → w.grownBy w' none → wpList Tryz.prog ops Q rest (a.put o.dst v') w') : wpList Tryz.prog ops Q (o :: rest) a w := by
  obtain ⟨i, hi, hz, hs5, hby⟩ := info_parts infoS
  obtain ⟨A, c, rfl, hR⟩ := hm
  by_cases h0 : m = []
  · subst h0
    refine wpList_plain hgd fun K hK => ?_
    have hr : (Builtin.append_ #[35, 35] o.type #[.slice none 0 0, .slice A 0 c]).run Tryz.prog w = .ok (.slice none 0 0) w := by
      cases A <;> simp [Builtin.append_, run_underlying Tryz.underlying35, sizeOf, typeInfo, hi, Builtin.lenOf, Builtin.firstCells, loadCells, loadCellsFrom]
    unfold Oper.wp execOp
    have hx : a.eval x = .slice A 0 c := hx
    simp only [ho, resolve, invoke, builtin, Sem.run_bind, Sem.run_pure, Result.andThen_ok, List.map_toArray, List.map_cons, List.map_nil, hs, hx, hr]
    exact hK _ _ (h _ _ (Wn.nil _ _) ⟨rfl, rfl, rfl, Nat.le_refl _, fun _ _ _ => rfl⟩)
  · rcases hR with h1 | ⟨ad, rfl, hR⟩
    · exact absurd h1 h0
    refine wpList_append_own_at w hgd s x 35 ho B 9 i _ 1 16 Tryz.underlying35 hi hz hs5 hby rfl (by omega) (.slice none 0 0) 0 [] hs (World.ownsRow_nil _ _ _ _) ad m.length c (m.map encStr) hx (by simp)
      (fun j u hj => by
        rw [List.getElem?_map] at hj
        cases e : m[j]? with
        | none => rw [e] at hj; cases hj
        | some y =>
          rw [e] at hj
          cases hj
          obtain ⟨hj2, rfl⟩ := List.getElem?_eq_some_iff.1 e
          have := hR j hj2
          rw [Nat.mul_one] at this
          exact this) (by intro u hu; obtain ⟨y, -, rfl⟩ := List.mem_map.1 hu; rfl) (by simp only [maxLen]; omega) (by omega) hB ?_
    intro v' w' h1 h2 _ _
    refine h v' w' ?_ h2
    unfold Wn
    rw [Nat.zero_add, List.nil_append] at h1
    exact h1
/-- Where a name is put: what is still to come. -/
def pst (l : List (List UInt8)) (x : List UInt8) (k : Nat) (d : Bool) (out : List (List UInt8)) : Prop := out ++ (if d then l.drop k else put leB (l.drop k) x) = put leB l x
theorem pst_start (l : List (List UInt8)) (x : List UInt8) : pst l x 0 false [] := rfl
theorem pst_done {l : List (List UInt8)} {x : List UInt8} {k : Nat} {out : List (List UInt8)} (hk : k < l.length) (h : pst l x k true out) : pst l x (k + 1) true (out ++ [l[k]'hk]) := by
  unfold pst at h ⊢
  rw [← h, if_pos rfl, if_pos rfl, List.append_assoc]
  congr 1
  rw [List.drop_eq_getElem_cons hk]
  rfl
theorem pst_gt {l : List (List UInt8)} {x : List UInt8} {k : Nat} {out : List (List UInt8)} (hk : k < l.length) (hx : leB x (l[k]'hk) = false) (h : pst l x k false out) : pst l x (k + 1) false (out ++ [l[k]'hk]) := by
  unfold pst at h ⊢
  rw [← h, if_neg (by decide), if_neg (by decide), List.append_assoc]
  congr 1
  rw [List.drop_eq_getElem_cons hk, put, if_neg (by rw [hx]; decide)]
  rfl
theorem pst_lt {l : List (List UInt8)} {x : List UInt8} {k : Nat} {out : List (List UInt8)} (hk : k < l.length) (hx : leB x (l[k]'hk) = true) (hne : x ≠ l[k]'hk) (h : pst l x k false out) : pst l x (k + 1) true (out ++ [x] ++ [l[k]'hk]) := by
  unfold pst at h ⊢
  rw [← h, if_pos rfl, if_neg (by decide), List.append_assoc, List.append_assoc]
  congr 1
  rw [List.drop_eq_getElem_cons hk, put, if_pos hx, if_neg hne]
  rfl
theorem pst_eq {l : List (List UInt8)} {x : List UInt8} {k : Nat} {out : List (List UInt8)} (hk : k < l.length) (hx : leB x (l[k]'hk) = true) (he : x = l[k]'hk) (h : pst l x k false out) : pst l x (k + 1) true (out ++ [l[k]'hk]) := by
  unfold pst at h ⊢
  rw [← h, if_pos rfl, if_neg (by decide), List.append_assoc]
  congr 1
  rw [List.drop_eq_getElem_cons hk, put, if_pos hx, if_pos he]
  rfl
theorem pst_end1 {l : List (List UInt8)} {x : List UInt8} {out : List (List UInt8)} (h : pst l x l.length true out) : out = put leB l x := by
  unfold pst at h
  rw [if_pos rfl, List.drop_length, List.append_nil] at h
  exact h
theorem pst_end0 {l : List (List UInt8)} {x : List UInt8} {out : List (List UInt8)} (h : pst l x l.length false out) : out ++ [x] = put leB l x := by
  unfold pst at h
  rw [if_neg (by decide), List.drop_length, put] at h
  exact h
theorem put_length (l : List (List UInt8)) (x : List UInt8) : (put leB l x).length ≤ l.length + 1 := by
  induction l with
  | nil => simp [put]
  | cons y r ih =>
    rw [put]
    split
    · split <;> simp
    · simp; omega
theorem pst_len {l : List (List UInt8)} {x : List UInt8} {k : Nat} {d : Bool} {out : List (List UInt8)} (h : pst l x k d out) : out.length ≤ l.length + 1 := by
  have h1 := put_length l x
  rw [← show out ++ _ = put leB l x from h, List.length_append] at h1
  omega
theorem right_elem {S : Sch} {k s : Int} {n : List UInt8} {e : List Ty} (h : right S (.mk k s n e) = true) : (k = 5 ∧ ∃ t, e = [t] ∧ right S t = true) ∨ (k ≠ 5 ∧ e = []) := by
  by_cases h5 : k = 5
  · subst h5
    obtain ⟨-, t, he, ht⟩ := right_list h
    exact .inl ⟨rfl, t, he, ht⟩
  · rw [right_eq] at h
    simp only [Bool.and_eq_true] at h
    obtain ⟨-, h⟩ := h
    rw [if_neg h5] at h
    refine .inr ⟨h5, ?_⟩
    by_cases h6 : k = 6
    · rw [if_pos h6] at h
      simp only [Bool.and_eq_true, decide_eq_true_eq] at h
      exact List.eq_nil_of_length_eq_zero h.2
    · rw [if_neg h6] at h
      by_cases h7 : k = 7
      · rw [if_pos h7] at h
        simp only [Bool.and_eq_true, decide_eq_true_eq] at h
        exact List.eq_nil_of_length_eq_zero h.2
      · rw [if_neg h7] at h
        simp only [Bool.and_eq_true, decide_eq_true_eq] at h
        exact List.eq_nil_of_length_eq_zero h.2
theorem bl_eq (x y : List UInt8) : Op.bytesLess (bs x).toList (bs y).toList = decide (x < y) := by rw [toList_bs, toList_bs, bytesLess_eq]
/-- Names that stay as they are whatever becomes of blocks below lo. -/
def NmN (lo : Nat) (w : World) (l : List (List UInt8)) (v : Value) : Prop := ∀ w', w.heap.size ≤ w'.heap.size → (∀ i, lo ≤ i → i < w.heap.size → w'.heap[i]? = w.heap[i]?) → Nms w' l v
theorem NmN.nms {lo : Nat} {w : World} {l : List (List UInt8)} {v : Value} (h : NmN lo w l v) : Nms w l v := h w (Nat.le_refl _) fun _ _ _ => rfl
theorem NmN.nil (lo : Nat) (w : World) : NmN lo w [] (.slice none 0 0) := fun _ _ _ => Sl.nil _ _ _
theorem NmN.next {lo : Nat} {w w' : World} {l : List (List UInt8)} {v : Value} (h : NmN lo w l v) (hb : Below w.heap.size w w') : NmN lo w' l v := fun w2 hs hk => h w2 (Nat.le_trans hb.size hs) fun i h1 h2 => (hk i h1 (Nat.lt_of_lt_of_le h2 hb.size)).trans (hb.block i h2)
theorem Wn.nmn {B : Nat} {w : World} {v : Value} {l : List (List UInt8)} (h : Wn B w v l) : NmN B w l v := by
  intro w' hs hk
  refine Wn.nms (B := B) (w := w') (v := v) (l := l) ?_
  unfold Wn World.ownsRow at *
  refine ⟨h.1, ?_⟩
  rcases h.2 with h1 | ⟨g, cap, cur, h1, h2, h3, h4⟩
  · exact .inl h1
  · refine .inr ⟨g, cap, cur, h1, h2, ?_, h4⟩
    rw [hk g h2 (Array.getElem?_eq_some_iff.1 h3).1]
    exact h3
/-- What holds whatever becomes of one block. -/
def Rob (q : Option Nat) (w : World) (P : World → Prop) : Prop := ∀ w', w.grownBy w' q → P w'
theorem Rob.get {q : Option Nat} {w : World} {P : World → Prop} (h : Rob q w P) : P w := h w ⟨rfl, rfl, rfl, Nat.le_refl _, fun _ _ _ => rfl⟩
theorem gbB {w w' : World} (hb : Below w.heap.size w w') (q : Option Nat) : w.grownBy w' q := ⟨hb.os, hb.tape, hb.output, hb.size, fun i hi _ => hb.block i hi⟩
theorem Rob.next {q : Option Nat} {w w' : World} {P : World → Prop} (h : Rob q w P) (hb : Below w.heap.size w w') : Rob q w' P := fun w2 hg => h w2 ((gbB hb q).trans hg)
theorem Rob.push {q q' : Option Nat} {w w' : World} {P : World → Prop} (h : Rob q w P) (hg : w.grownBy w' q) (hq : q' = q ∨ ∃ b, q' = some b ∧ w.heap.size ≤ b) : Rob q' w' P := fun w2 hg2 => h w2 ⟨hg2.os.trans hg.os, hg2.tape.trans hg.tape, hg2.output.trans hg.output, Nat.le_trans hg.size hg2.size, fun i hi hne => (hg2.block i (Nat.lt_of_lt_of_le hi hg.size) (by
  rcases hq with rfl | ⟨b, rfl, hb⟩
  · exact hne
  · intro e; injection e with e; omega)).trans (hg.block i hi hne)⟩
theorem Bx.rob {w : World} {c : Nat} {vs : List Value} {q : Option Nat} (h : Bx w c vs) (hne : some c ≠ q) : Rob q w fun W => Bx W c vs := fun w' hg =>
  ⟨Nat.lt_of_lt_of_le h.lt hg.size, fun j v e => by
    have hb := hg.block c h.lt hne
    obtain ⟨h1, h2⟩ := h.at_ j v e
    unfold World.cell? World.frozen? at *
    rw [hb]
    exact ⟨h1, h2⟩⟩
theorem NmN.rob {lo : Nat} {w : World} {l : List (List UInt8)} {v : Value} {q : Option Nat} (h : NmN lo w l v) (hq : ∀ b, q = some b → b < lo) : Rob q w fun W => Nms W l v := fun w' hg =>
  h w' hg.size fun i h1 h2 => hg.block i h2 (fun e => by have := hq i e.symm; omega)
theorem Wn.blk {B : Nat} {w : World} {v : Value} {l : List (List UInt8)} (h : Wn B w v l) (b : Nat) (e : v.ownBlock = some b) : B ≤ b ∧ b < w.heap.size := h.lt b e
end Go.Proofs.YthbhbpcjcnkkkaaGreatDoor
/-
  The reference's direct and put. No conditions beyond those that each names.
-/
namespace Go.Proofs.YthbhbpcjcnkkkaaGreatDoor
open Go.RowKit Go.Maps
/-- The call returns names, and memory only grows. -/
def NmP (l : List (List UInt8)) (w : World) (e : Ending) (w' : World) : Prop := ∃ v, e = .returned v ∧ NmN w.heap.size w' l v ∧ Below w.heap.size w w'
set_option maxRecDepth 100000 in
set_option maxHeartbeats 2000000 in
theorem refDirect_any (N : Nat) : ∀ (S : Sch) (t : Ty) (v : Value) (w : World), SizeOf.sizeOf t < N → right S t = true → TyV w t v →
    Calls Tryz.prog 69 #[v] w (NmP (dir t) w) := by
  induction N with
  | zero => intro S t v w h; omega
  | succ N ih =>
    intro S t v w hN hr hv
    obtain ⟨k, s, nm, e⟩ := t
    rw [TyV.mk_] at hv
    obtain ⟨A, c, rfl, hR⟩ := hv
    by_cases h67 : k = 6 ∨ k = 7
    · have hd : dir (.mk k s nm e) = [nm] := dir_pos _ _ _ h67
      rw [hd]
      clear hr hR ih hd
      rcases h67 with rfl | rfl
      · go_enter Tryz.func69, Tryz.ntmps69
        go_wp2_with fail
        go_ret
        exact ⟨.slice (some ⟨w.heap.size + 1, 0, none⟩) 1 1, rfl, (Wn.lit (B := w.heap.size) _ nm (by simp) (by simp)).nmn, ab2 _ _ _⟩
      · go_enter Tryz.func69, Tryz.ntmps69
        go_wp2_with fail
        go_ret
        exact ⟨.slice (some ⟨w.heap.size + 1, 0, none⟩) 1 1, rfl, (Wn.lit (B := w.heap.size) _ nm (by simp) (by simp)).nmn, ab2 _ _ _⟩
    · have hB := Bx.new4 w 45 (.int .i64 k) (.int .i64 s) (.string (bs nm)) (.slice A e.length c)
      rcases right_elem hr with ⟨rfl, t', rfl, ht⟩ | ⟨h5, rfl⟩
      · have hd : dir (.mk 5 s nm [t']) = dir t' := by rw [dir_neg _ _ _ h67, dir.dirs, dir.dirs, List.append_nil]
        rw [hd]
        have hlen : (dir t').length ≤ 100000 := by rcases right_dir t' ht with ⟨h, -⟩ | ⟨h, -⟩ <;> rw [h] <;> simp
        obtain ⟨a, rfl, hA⟩ := hR.get (i := 0) (by simp)
        rw [Nat.zero_mul, Addr.add_zero'] at hA
        have hA : TyA w t' a := hA
        have hsz : SizeOf.sizeOf t' < N := by
          have := size_elem (t := .mk 5 s nm [t']) (i := 0) (Nat.zero_lt_succ 0)
          have : SizeOf.sizeOf t' < SizeOf.sizeOf (Ty.mk 5 s nm [t']) := this
          omega
        clear hd h67 hr hR
        go_enter Tryz.func69, Tryz.ntmps69
        go_wp2_with fail
        go_loopw [3, 4] (fun p i wr => ∃ j : Nat, j ≤ 1 ∧ i = .int .i64 (j : Int) ∧ (j = 0 → p = .slice none 0 0) ∧ (j = 1 → NmN w.heap.size wr (dir t') p) ∧ Bx wr w.heap.size [.int .i64 5, .int .i64 s, .string (bs nm), .slice (some a) 1 c] ∧ Below w.heap.size w wr) (fun _ i _ => 1 - (intOf i).toNat)
        case atStart => exact ⟨0, by omega, rfl, fun _ => rfl, fun h => by omega, hB, ab1 _ _⟩
        case round =>
          obtain ⟨j, hj, rfl, hp0, hp1, R1, hb⟩ := hrel
          clear hB
          have b3 := R1.c 3 rfl
          have l3 := R1.lt
          by_cases h0 : j = 0
          · subst h0
            have hp := hp0 rfl
            subst hp
            clear hp0 hp1
            obtain ⟨A3, c3, e0, e1, e2, e3, hV⟩ := (TyA.next hb t' a hA).val
            have hblk : a.block < wr.heap.size := blk_lt e0
            have cI := ih S t' _ wr hsz ht hV
            clear hA ih ht hV
            go_wp2_with fail
            refine cI.mono ?_
            rintro e w2 ⟨v2, rfl, hN2, hb2⟩
            have hb3 := Below.next hb hb2
            have R2 := R1.next hb2
            clear cI e0 e1 e2 e3 b3
            go_wp2_with (at_builtin; refine wpList_pushAll rfl (.tmp 23) (.tmp 29) rfl w.heap.size (dir t') _ rfl rfl hN2.nms hlen hb3.size ?_; intro v' w3 ho hg)
            go_roundw
            case rel => exact ⟨1, by omega, rfl, fun h => by omega, fun _ => ho.nmn, R2.next (Below.grown (Below.refl _ _) hg (Nat.le_refl _) (fun _ h => by cases h)), hb3.grown hg hb3.size (fun _ h => by cases h)⟩
            case measure => simp [intOf]
          · obtain rfl : j = 1 := by omega
            have hN := hp1 rfl
            clear hp0 hp1 hA ih ht
            go_wp2_with fail
            go_ret
            exact ⟨_, rfl, hN, hb⟩
      · have hd : dir (.mk k s nm []) = [] := by rw [dir_neg _ _ _ h67, dir.dirs]
        rw [hd]
        have k6 : k ≠ 6 := fun h => h67 (.inl h)
        have k7 : k ≠ 7 := fun h => h67 (.inr h)
        have d6 : (k == 6) = false := by rw [beq_eq_false_iff_ne]; exact k6
        have d7 : (k == 7) = false := by rw [beq_eq_false_iff_ne]; exact k7
        clear hd h67 hr hR ih
        go_enter Tryz.func69, Tryz.ntmps69
        go_wp2_with fail
        go_loopw [3, 4] (fun p i wr => p = .slice none 0 0 ∧ i = .int .i64 0 ∧ Bx wr w.heap.size [.int .i64 k, .int .i64 s, .string (bs nm), .slice A 0 c] ∧ Below w.heap.size w wr) (fun _ i _ => 0)
        case atStart => exact ⟨rfl, rfl, hB, ab1 _ _⟩
        case round =>
          obtain ⟨rfl, rfl, R1, hb⟩ := hrel
          have b3 := R1.c 3 rfl
          have l3 := R1.lt
          clear hB
          go_wp2_with fail
          go_ret
          exact ⟨_, rfl, NmN.nil _ _, hb⟩
set_option maxRecDepth 100000 in
set_option maxHeartbeats 2000000 in
theorem refPut_any (l : List (List UInt8)) (x : List UInt8) (v : Value) (w : World) (hl : l.length ≤ 1000) (h : Nms w l v) :
    Calls Tryz.prog 70 #[v, .string (bs x)] w (NmP (put leB l x) w) := by
  obtain ⟨A, c, rfl, hR⟩ := h
  obtain ⟨m, hm⟩ : ∃ m, l.length = m := ⟨_, rfl⟩
  have HM := Lib.hid hm
  rw [hm] at hl ⊢
  clear hm
  go_enter Tryz.func70, Tryz.ntmps70
  go_wp2_with fail
  go_loopw [5, 6, 7] (fun p dv i wr => ∃ (k : Nat) (d : Bool) (out : List (List UInt8)), k ≤ m ∧ i = .int .i64 (k : Int) ∧ dv = .bool d ∧ Wn w.heap.size wr p out ∧ Hid (pst l x k d out) ∧ Below w.heap.size w wr) (fun _ _ i _ => m - (intOf i).toNat)
  case atStart => exact ⟨0, false, [], by omega, rfl, rfl, Wn.nil _ _, Lib.hid (pst_start l x), Below.refl _ _⟩
  case round =>
    obtain ⟨k, d, out, hk, rfl, rfl, ho, hI, hb⟩ := hrel
    have hol : out.length ≤ m + 1 := by have := pst_len hI.out; rw [HM.out] at this; exact this
    by_cases hlt : k < m
    · have hkm : k < l.length := by rw [HM.out]; exact hlt
      obtain ⟨a, rfl, hA⟩ := hR.get hkm
      rw [Nat.mul_one] at hA
      have e0 : wr.cell? (a.add k) = some (.string (bs (l[k]'hkm))) := cell_next hb hA
      cases d
      · have hgt := fun h => pst_gt hkm h hI.out
        have hl2 := fun h1 h2 => pst_lt hkm h1 h2 hI.out
        have he := fun h1 h2 => pst_eq hkm h1 h2 hI.out
        have hbl := bl_eq x (l[k]'hkm)
        have hA1 : TyN w (l[k]'hkm) (a.add k) := hA
        generalize l[k]'hkm = y at *
        clear hA hI
        by_cases h1 : leB x y = true
        · by_cases h2 : x = y
          · have E := Lib.hid (he h1 h2)
            replace hbl : Op.bytesLess (bs x).toList (bs y).toList = false := by rw [hbl, decide_eq_false_iff_not, ltB]; exact fun h => h.2 h2
            subst h2
            have q1 := sq_t x
            clear hgt hl2 he h1
            go_wp2_with (at_builtin; refine wpList_pushN rfl (.tmp 34) (.tmp 39) rfl w.heap.size u5 out x _ 1 rfl rfl (ho.other (ab1 _ _)) (by simp) (by omega) (Nat.le_trans hb.size (ab1 _ _).size) ?_; intro v' w4 ho' hg' _)
            go_roundw
            case rel => exact ⟨k + 1, true, _, by omega, by go_num, rfl, ho', E, (hb.alloc hb.size _).grown hg' (Nat.le_trans hb.size (ab1 _ _).size) (fun k hk => (ho.lt k hk).1)⟩
            case measure => simp [intOf]; omega
          · have E := Lib.hid (hl2 h1 h2)
            replace hbl : Op.bytesLess (bs x).toList (bs y).toList = true := by rw [hbl, decide_eq_true_eq, ltB]; exact ⟨h1, h2⟩
            clear hgt hl2 he h1 h2
            have hbx := (hb.alloc hb.size (Obj.cells #[.string (bs x)] 9))
            go_wp2_with (first | (at_builtin; refine wpList_pushN rfl (.tmp 30) (.tmp 32) rfl w.heap.size u5 out x _ 1 rfl rfl (ho.other (ab1 _ _)) (by simp) (by omega) (Nat.le_trans hb.size (ab1 _ _).size) ?_; intro v' w4 ho' hg' _; have hb4 := hbx.grown hg' (Nat.le_trans hb.size (ab1 _ _).size) (fun k hk => (ho.lt k hk).1); have e4 := cell_next hb4 hA1; have ol4 : (out ++ [x]).length ≤ m + 2 := by rw [List.length_append]; simp; omega) | (at_builtin; refine wpList_pushN rfl (.tmp 34) (.tmp 39) rfl w.heap.size v' (out ++ [x]) y _ 1 rfl rfl (ho'.other (ab1 _ _)) (by simp) (by omega) (Nat.le_trans hb4.size (ab1 _ _).size) ?_; intro v5 w5 ho5 hg5 _))
            go_roundw
            case rel => exact ⟨k + 1, true, _, by omega, by go_num, rfl, ho5, E, (hb4.alloc hb4.size _).grown hg5 (Nat.le_trans hb4.size (ab1 _ _).size) (fun k hk => (ho'.lt k hk).1)⟩
            case measure => simp [intOf]; omega
        · have E := Lib.hid (hgt (by simpa using h1))
          have hxy : x ≠ y := fun h => h1 (by subst h; rcases tot_leB.total x x with h | h <;> exact h)
          replace hbl : Op.bytesLess (bs x).toList (bs y).toList = false := by rw [hbl, decide_eq_false_iff_not, ltB]; exact fun h => h1 h.1
          have q1 := sq_f hxy
          clear hgt hl2 he h1
          go_wp2_with (at_builtin; refine wpList_pushN rfl (.tmp 34) (.tmp 39) rfl w.heap.size u5 out y _ 1 rfl rfl (ho.other (ab1 _ _)) (by simp) (by omega) (Nat.le_trans hb.size (ab1 _ _).size) ?_; intro v' w4 ho' hg' _)
          go_roundw
          case rel => exact ⟨k + 1, false, _, by omega, by go_num, rfl, ho', E, (hb.alloc hb.size _).grown hg' (Nat.le_trans hb.size (ab1 _ _).size) (fun k hk => (ho.lt k hk).1)⟩
          case measure => simp [intOf]; omega
      · have hx := Lib.hid (pst_done hkm hI.out)
        generalize l[k]'hkm = y at *
        clear hA hI
        go_wp2_with (at_builtin; refine wpList_pushN rfl (.tmp 34) (.tmp 39) rfl w.heap.size u5 out y _ 1 rfl rfl (ho.other (ab1 _ _)) (by simp) (by omega) (Nat.le_trans hb.size (ab1 _ _).size) ?_; intro v' w4 ho' hg' _)
        go_roundw
        case rel => exact ⟨k + 1, true, _, by omega, by go_num, rfl, ho', hx, (hb.alloc hb.size _).grown hg' (Nat.le_trans hb.size (ab1 _ _).size) (fun k hk => (ho.lt k hk).1)⟩
        case measure => simp [intOf]; omega
    · obtain rfl : k = m := by omega
      have hol9 : out.length ≤ 1001 := by omega
      cases d
      · have E := Lib.hid (pst_end0 (by rw [HM.out]; exact hI.out))
        clear hI
        go_wp2_with (at_builtin; refine wpList_pushN rfl (.tmp 43) (.tmp 45) rfl w.heap.size u5 out x _ 1 rfl rfl (ho.other (ab1 _ _)) (by simp) (by omega) (Nat.le_trans hb.size (ab1 _ _).size) ?_; intro v' w4 ho' hg' _)
        go_ret
        exact ⟨_, rfl, E.out ▸ ho'.nmn, (hb.alloc hb.size _).grown hg' (Nat.le_trans hb.size (ab1 _ _).size) (fun k hk => (ho.lt k hk).1)⟩
      · have E := Lib.hid (pst_end1 (by rw [HM.out]; exact hI.out))
        clear hI
        go_wp2_with fail
        go_ret
        exact ⟨_, rfl, E.out ▸ ho.nmn, hb⟩
end Go.Proofs.YthbhbpcjcnkkkaaGreatDoor
/-
  The reference's looking up by name, with the very value that it returns. No conditions beyond those that each names.
-/
namespace Go.Proofs.YthbhbpcjcnkkkaaGreatDoor
open Go.RowKit

set_option maxRecDepth 100000 in
set_option maxHeartbeats 1000000 in
theorem refStruct_ex (S : Sch) (nm : List UInt8) (v : Value) (w : World) (hv : ScV w S v) (hn : S.structs.length ≤ 1000) :
    ∃ u, StV w ((fst_ St.name S.structs nm).getD st0) u ∧ ∀ W, Below w.heap.size w W → Calls Tryz.prog 14 #[v, .string (bs nm)] W (Ib (.tuple #[u, .bool (fst_ St.name S.structs nm).isSome]) W) := by
  obtain ⟨A, c, A2, c2, rfl, hS⟩ := hv
  have hL := hS.st
  obtain ⟨m, hm⟩ : ∃ m, S.enums.length = m := ⟨_, rfl⟩
  obtain ⟨n, hn2⟩ : ∃ n, S.structs.length = n := ⟨_, rfl⟩
  have HN := Lib.hid hn2
  obtain ⟨K, hK⟩ : ∃ K, S.structs.findIdx (fun t => decide (t.name = nm)) = K := ⟨_, rfl⟩
  have hmin : ∀ j (hj : j < S.structs.length), j < K → (S.structs[j]'hj).name ≠ nm := fun j hj hjk => by
    have := List.not_of_lt_findIdx (xs := S.structs) (p := fun t => decide (t.name = nm)) (i := j) (by rw [hK]; exact hjk)
    simpa using this
  rw [hn2, hm]
  rw [hn2] at hn
  by_cases hKn : K < S.structs.length
  · have hname : (S.structs[K]'hKn).name = nm := by
      have := List.findIdx_getElem (xs := S.structs) (p := fun t => decide (t.name = nm)) (w := by rw [hK]; exact hKn)
      simp only [hK] at this
      simpa using this
    have hf := fst_at (key := St.name) hKn hmin hname
    rw [hf]
    obtain ⟨a, ha, hA⟩ := hL.get hKn
    obtain ⟨A3, c3, h0, h1, hV⟩ := hA.val
    refine ⟨_, hV, fun W hW => ?_⟩
    have HM := Lib.hid hmin
    have hKn9 : K < n := by omega
    have h0 := cell_next hW h0
    have h1 := cell_next hW h1
    skip
    have hblk : (a.add (K * 2)).block < W.heap.size := blk_lt h0
    subst ha
    have HNM := Lib.hid hname
    have HA := Lib.hid hL
    generalize hteq : S.structs[K]'hKn = t at *
    subst hname
    have q1 := sq_t t.name
    clear hV hA hf hmin hn2 hm hK
    go_enter Tryz.func14, Tryz.ntmps14
    go_wp2_with fail
    go_loop [6] (fun i => ∃ k : Nat, k ≤ K ∧ i = .int .i64 (k : Int)) (fun i => n - (intOf i).toNat)
    case atStart => exact ⟨0, by omega, rfl⟩
    case round =>
      obtain ⟨k, hk, rfl⟩ := hrel
      by_cases hlt : k < K
      · have hkn : k < n := by omega
        obtain ⟨a', ha', hA⟩ := HA.out.get (i := k) (by omega)
        cases ha'
        have e := HM.out k (by omega) hlt
        have e0 := cell_next hW hA.1
        have hblk2 : (a.add (k * 2)).block < W.heap.size := blk_lt e0
        generalize S.structs[k]'(by omega) = t2 at *
        have q2 := sq_f e
        clear hA
        go_wp2_with fail
        go_round
        case rel => exact ⟨k + 1, by omega, by go_num⟩
        case measure => simp [intOf]; omega
      · obtain rfl : k = K := by omega
        go_wp2_with fail
        exact bodyPost_ret (v := .tuple #[.agg #[.string (bs t.name), .slice A3 t.fields.length c3], .bool true]) (by simp [results, Tryz.results14, go_sem]) rfl ⟨rfl, ab2 _ _ _⟩
  · have hf : fst_ St.name S.structs nm = none := fst_end fun j hj => hmin j hj (by omega)
    rw [hf]
    refine ⟨_, StV.zero w, fun W hW => ?_⟩
    have HM := Lib.hid (show ∀ j (hj : j < S.structs.length), (S.structs[j]'hj).name ≠ nm from fun j hj => hmin j hj (by omega))
    have HA := Lib.hid hL
    clear hf hmin hn2 hm hK hKn
    go_enter Tryz.func14, Tryz.ntmps14
    go_wp2_with fail
    go_loop [6] (fun i => ∃ k : Nat, k ≤ n ∧ i = .int .i64 (k : Int)) (fun i => n - (intOf i).toNat)
    case atStart => exact ⟨0, by omega, rfl⟩
    case round =>
      obtain ⟨k, hk, rfl⟩ := hrel
      by_cases hlt : k < n
      · have hkm : k < S.structs.length := by rw [HN.out]; exact hlt
        obtain ⟨a', rfl, hA⟩ := HA.out.get (i := k) hkm
        have e := HM.out k hkm
        have e0 := cell_next hW hA.1
        have hblk2 : (a'.add (k * 2)).block < W.heap.size := blk_lt e0
        generalize S.structs[k]'hkm = t2 at *
        have q2 := sq_f e
        clear hA
        go_wp2_with fail
        go_round
        case rel => exact ⟨k + 1, by omega, by go_num⟩
        case measure => simp [intOf]; omega
      · obtain rfl : k = n := by omega
        go_wp2_with fail
        exact bodyPost_ret (v := .tuple #[.agg #[.string ⟨#[]⟩, .slice none 0 0], .bool false]) (by simp [results, Tryz.results14, go_sem]) rfl ⟨rfl, ab2 _ _ _⟩

set_option maxRecDepth 100000 in
set_option maxHeartbeats 1000000 in
theorem refEnum_ex (S : Sch) (nm : List UInt8) (v : Value) (w : World) (hv : ScV w S v) (hn : S.enums.length ≤ 1000) :
    ∃ u, EnV w ((fst_ En.name S.enums nm).getD en0) u ∧ ∀ W, Below w.heap.size w W → Calls Tryz.prog 16 #[v, .string (bs nm)] W (Ib (.tuple #[u, .bool (fst_ En.name S.enums nm).isSome]) W) := by
  obtain ⟨A, c, A2, c2, rfl, hS⟩ := hv
  have hL := hS.en
  obtain ⟨m, hm⟩ : ∃ m, S.structs.length = m := ⟨_, rfl⟩
  obtain ⟨n, hn2⟩ : ∃ n, S.enums.length = n := ⟨_, rfl⟩
  have HN := Lib.hid hn2
  obtain ⟨K, hK⟩ : ∃ K, S.enums.findIdx (fun t => decide (t.name = nm)) = K := ⟨_, rfl⟩
  have hmin : ∀ j (hj : j < S.enums.length), j < K → (S.enums[j]'hj).name ≠ nm := fun j hj hjk => by
    have := List.not_of_lt_findIdx (xs := S.enums) (p := fun t => decide (t.name = nm)) (i := j) (by rw [hK]; exact hjk)
    simpa using this
  rw [hn2, hm]
  rw [hn2] at hn
  by_cases hKn : K < S.enums.length
  · have hname : (S.enums[K]'hKn).name = nm := by
      have := List.findIdx_getElem (xs := S.enums) (p := fun t => decide (t.name = nm)) (w := by rw [hK]; exact hKn)
      simp only [hK] at this
      simpa using this
    have hf := fst_at (key := En.name) hKn hmin hname
    rw [hf]
    obtain ⟨a, ha, hA⟩ := hL.get hKn
    obtain ⟨A3, c3, A4, c4, h0, h1, h2, hV⟩ := hA.val
    refine ⟨_, hV, fun W hW => ?_⟩
    have HM := Lib.hid hmin
    have hKn9 : K < n := by omega
    have h0 := cell_next hW h0
    have h1 := cell_next hW h1
    have h2 := cell_next hW h2
    have hblk : (a.add (K * 3)).block < W.heap.size := blk_lt h0
    subst ha
    have HNM := Lib.hid hname
    have HA := Lib.hid hL
    generalize hteq : S.enums[K]'hKn = t at *
    subst hname
    have q1 := sq_t t.name
    clear hV hA hf hmin hn2 hm hK
    go_enter Tryz.func16, Tryz.ntmps16
    go_wp2_with fail
    go_loop [6] (fun i => ∃ k : Nat, k ≤ K ∧ i = .int .i64 (k : Int)) (fun i => n - (intOf i).toNat)
    case atStart => exact ⟨0, by omega, rfl⟩
    case round =>
      obtain ⟨k, hk, rfl⟩ := hrel
      by_cases hlt : k < K
      · have hkn : k < n := by omega
        obtain ⟨a', ha', hA⟩ := HA.out.get (i := k) (by omega)
        cases ha'
        have e := HM.out k (by omega) hlt
        have e0 := cell_next hW hA.1
        have hblk2 : (a.add (k * 3)).block < W.heap.size := blk_lt e0
        generalize S.enums[k]'(by omega) = t2 at *
        have q2 := sq_f e
        clear hA
        go_wp2_with fail
        go_round
        case rel => exact ⟨k + 1, by omega, by go_num⟩
        case measure => simp [intOf]; omega
      · obtain rfl : k = K := by omega
        go_wp2_with fail
        exact bodyPost_ret (v := .tuple #[.agg #[.string (bs t.name), .slice A3 t.names.length c3, .slice A4 t.nums.length c4], .bool true]) (by simp [results, Tryz.results16, go_sem]) rfl ⟨rfl, ab2 _ _ _⟩
  · have hf : fst_ En.name S.enums nm = none := fst_end fun j hj => hmin j hj (by omega)
    rw [hf]
    refine ⟨_, EnV.zero w, fun W hW => ?_⟩
    have HM := Lib.hid (show ∀ j (hj : j < S.enums.length), (S.enums[j]'hj).name ≠ nm from fun j hj => hmin j hj (by omega))
    have HA := Lib.hid hL
    clear hf hmin hn2 hm hK hKn
    go_enter Tryz.func16, Tryz.ntmps16
    go_wp2_with fail
    go_loop [6] (fun i => ∃ k : Nat, k ≤ n ∧ i = .int .i64 (k : Int)) (fun i => n - (intOf i).toNat)
    case atStart => exact ⟨0, by omega, rfl⟩
    case round =>
      obtain ⟨k, hk, rfl⟩ := hrel
      by_cases hlt : k < n
      · have hkm : k < S.enums.length := by rw [HN.out]; exact hlt
        obtain ⟨a', rfl, hA⟩ := HA.out.get (i := k) hkm
        have e := HM.out k hkm
        have e0 := cell_next hW hA.1
        have hblk2 : (a'.add (k * 3)).block < W.heap.size := blk_lt e0
        generalize S.enums[k]'hkm = t2 at *
        have q2 := sq_f e
        clear hA
        go_wp2_with fail
        go_round
        case rel => exact ⟨k + 1, by omega, by go_num⟩
        case measure => simp [intOf]; omega
      · obtain rfl : k = n := by omega
        go_wp2_with fail
        exact bodyPost_ret (v := .tuple #[.agg #[.string ⟨#[]⟩, .slice none 0 0, .slice none 0 0], .bool false]) (by simp [results, Tryz.results16, go_sem]) rfl ⟨rfl, ab2 _ _ _⟩
end Go.Proofs.YthbhbpcjcnkkkaaGreatDoor
/-
  A region whose order Go leaves open, with one new variable that is stored into once. No conditions beyond those that it names.
-/
namespace Go.Proofs.YthbhbpcjcnkkkaaGreatDoor
open Go.RowKit
/-- All edges go back. -/
def backOk (ops : Array Oper) : Bool := (List.range ops.size).all fun i => match ops[i]? with
  | none => true
  | some o => o.after.all fun e => !Region.binds .any e || decide (e.on < i)
theorem backOk_at {ops : Array Oper} (h : backOk ops = true) {i : Nat} {o : Oper} (ho : ops[i]? = some o) : ∀ e ∈ o.after, Region.binds .any e = true → e.on < i := by
  have hi : i < ops.size := (Array.getElem?_eq_some_iff.1 ho).1
  have h1 := List.all_eq_true.1 h i (List.mem_range.2 hi)
  simp only [ho] at h1
  intro e he hb
  have := Array.all_eq_true_iff_forall_mem.1 h1 e he
  simpa [hb] using this
theorem all_listed_back {ops : Array Oper} (hok : backOk ops = true) {listed : Array Bool} (hl : listed.size = ops.size) (hr : Region.ready .any ops listed = []) : ∀ i, i < ops.size → listed.getD i false = true := by
  intro i
  induction i using Nat.strongRecOn with
  | _ i ih =>
    intro hi
    cases hg : listed.getD i false with
    | true => rfl
    | false =>
      exfalso
      have hmem : i ∈ Region.ready .any ops listed := by
        refine mem_ready.2 ⟨?_, ops[i], Array.getElem?_eq_getElem hi, fun e he hb => ?_⟩
        · rw [Array.getD_eq_getD_getElem?, Array.getElem?_eq_getElem (by omega)] at hg ⊢
          exact hg
        · have := backOk_at hok (Array.getElem?_eq_getElem hi) e he hb
          exact ih e.on this (by omega)
      rw [hr] at hmem
      cases hmem
section
variable {ops : Array Oper} {Q : Exit → Act → World → Prop}
theorem wpAny_inv (hok : backOk ops = true) (I : Array Bool → Act → World → Prop)
    (hstep : ∀ i o listed a w, ops[i]? = some o → listed.size = ops.size → listed.getD i false = false → (∀ e ∈ o.after, Region.binds .any e = true → listed.getD e.on false = true) → I listed a w →
      ∀ K : Act → World → Prop, (∀ a' w', I (listed.setIfInBounds i true) a' w' → K a' w') → (if Region.wanted o (yielded ops a.tmps) = true then Oper.wp Tryz.prog o a w K Q else K (a.put o.dst undef) w))
    (hend : ∀ listed a w, listed.size = ops.size → (∀ i, i < ops.size → listed.getD i false = true) → I listed a w → Q .normal a w) :
    ∀ (fuel : Nat) (listed : Array Bool) (a : Act) (w : World), listed.size = ops.size → I listed a w → left_ listed ops.size ≤ fuel → wpAny Tryz.prog .any ops Q fuel listed a w := by
  have hfin : ∀ (listed : Array Bool) (a : Act) (w : World), listed.size = ops.size → I listed a w → Region.ready .any ops listed = [] → Q .normal a w := fun listed a w hs h hr =>
    hend listed a w hs (all_listed_back hok hs hr) h
  intro fuel
  induction fuel with
  | zero =>
    intro listed a w hs h hl
    have hr : Region.ready .any ops listed = [] := by
      cases hr : Region.ready .any ops listed with
      | nil => rfl
      | cons i rs =>
        exfalso
        have hm : i ∈ Region.ready .any ops listed := by rw [hr]; simp
        obtain ⟨h1, o, ho, _⟩ := mem_ready.1 hm
        have := left_step (Array.getElem?_eq_some_iff.1 ho).1 hs h1
        omega
    exact ⟨hr, hfin listed a w hs h hr⟩
  | succ fuel ih =>
    intro listed a w hs h hl
    refine ⟨hfin listed a w hs h, fun i hi => ?_⟩
    obtain ⟨h1, o, ho, hedges⟩ := mem_ready.1 hi
    have hlt : i < ops.size := (Array.getElem?_eq_some_iff.1 ho).1
    refine wpOp_step ho fun K' hK => hstep i o listed a w ho hs (flip_getD (b := true) h1 false) hedges h K' fun a' w' h' => hK _ _ (ih _ _ _ (by simpa using hs) h' ?_)
    have := left_step hlt hs h1
    omega
end
/-- **A region whose order Go leaves open**: what each operation keeps, whichever comes when, holds behind it. -/
theorem wp_region_inv {Q : Exit → Act → World → Prop} {id : Nat} {l : List Oper} {a : Act} {w : World} (hm : Tryz.prog.follows .mixedOrders = true) (hok : backOk l.toArray = true) (I : Array Bool → Act → World → Prop)
    (h0 : I (Array.replicate l.length false) a w.drew)
    (hstep : ∀ i o listed a w, l.toArray[i]? = some o → listed.size = l.toArray.size → listed.getD i false = false → (∀ e ∈ o.after, Region.binds .any e = true → listed.getD e.on false = true) → I listed a w →
      ∀ K : Act → World → Prop, (∀ a' w', I (listed.setIfInBounds i true) a' w' → K a' w') → (if Region.wanted o (yielded l.toArray a.tmps) = true then Oper.wp Tryz.prog o a w K Q else K (a.put o.dst undef) w))
    (hend : ∀ listed a w, listed.size = l.toArray.size → (∀ i, i < l.toArray.size → listed.getD i false = true) → I listed a w → Q .normal a w) : (Code.region id l.toArray true).wp Tryz.prog Q a w := by
  refine wp_region_any hm (wpAny_inv hok I hstep hend _ _ _ _ (by simp) (by simpa using h0) ?_)
  unfold left_
  exact Nat.le_trans (List.length_filter_le _ _) (by simp)

/-- A fact that a store into newer memory leaves as it is. -/
def Fact.SoftG (F : Fact) (g : Nat) : Prop := ∀ v w w' b, F.holds v w → g ≤ w.heap.size → g ≤ b → w.grownBy w' (some b) → F.holds v w'
def ptr0 (b : Nat) : Value := .pointer (some ⟨b, 0, none⟩)
section
variable (ops : Array Oper) (F : Nat → Fact) (base : List Nat) (N : Nat) (g : Nat) (p k : Nat) (zs vs : List Value)
structure XInv (a0 : Act) (w0 : World) (listed : Array Bool) (a : Act) (w : World) : Prop where
  tsize : a.tmps.size = N
  defers : a.defers = a0.defers
  base : ∀ t ∈ base, (F t).holds (a.tmps.getD t undef) w
  done : ∀ (i t : Nat), listed.getD i false = true → (ops[i]?).bind Oper.dst = some t → (F t).holds (a.tmps.getD t undef) w
  other : ∀ (t : Nat), (∀ (i : Nat), (ops[i]?).bind Oper.dst ≠ some t) → a.tmps.getD t undef = a0.tmps.getD t undef
  below : Below g w0 w
  gle : g ≤ w.heap.size
  made : ∀ i, listed.getD i false = true → (ops[i]?).bind Oper.dst = some p → ∃ b, a.tmps.getD p undef = ptr0 b ∧ g ≤ b ∧ (listed.getD k false = false → Bx w b zs) ∧ (listed.getD k false = true → Bx w b vs)
  closed : ∀ i o, ops[i]? = some o → listed.getD i false = true → ∀ e ∈ o.after, Region.binds .any e = true → listed.getD e.on false = true
/-- What an operation of such a region must show. -/
inductive XOb (f : Nat) (Q : Exit → Act → World → Prop) (i : Nat) (o : Oper) : Prop
  | plain (h : Ob ops Q F base N o) (hp : o.dst ≠ some p) (hk : i ≠ k) : XOb f Q i o
  | alloc (hd : o.dst = some p) (hg : o.guard = none) (hF : F p = Fact.any) (hk : i ≠ k) (hrun : ∀ (a : Act) (w : World), ∃ w', (execOp a.eval o).run Tryz.prog w = .ok (.value (ptr0 w.heap.size)) w' ∧ Below w.heap.size w w' ∧ Bx w' w.heap.size zs) : XOb f Q i o
  | store (hi : i = k) (hd : o.dst = none) (hg : o.guard = none) (hkn : known ops [] o p = true) (hk2 : known ops base o f = true)
      (hrun : ∀ (a : Act) (w : World) (b : Nat), a.tmps.getD p undef = ptr0 b → Bx w b zs → (F f).holds (a.tmps.getD f undef) w → ∃ w', (execOp a.eval o).run Tryz.prog w = .ok .skip w' ∧ w.grownBy w' (some b) ∧ Bx w' b vs) : XOb f Q i o
end
section
variable {ops : Array Oper} {Q : Exit → Act → World → Prop} {F : Nat → Fact} {base : List Nat} {N g : Nat} {p k f : Nat} {zs vs : List Value}
theorem XInv.closed' {a0 : Act} {w0 : World} {listed : Array Bool} {a : Act} {w : World} (h : XInv ops F base N g p k zs vs a0 w0 listed a w) (hs : listed.size = ops.size) {i : Nat} {o : Oper} (ho : ops[i]? = some o)
    (he : ∀ e ∈ o.after, Region.binds .any e = true → listed.getD e.on false = true) : ∀ j o', ops[j]? = some o' → (listed.setIfInBounds i true).getD j false = true → ∀ e ∈ o'.after, Region.binds .any e = true → (listed.setIfInBounds i true).getD e.on false = true := by
  have hlt : i < listed.size := by rw [hs]; exact (Array.getElem?_eq_some_iff.1 ho).1
  intro j o' ho' hl e hm hb
  rw [listed_set hlt] at hl ⊢
  rcases hl with rfl | hl
  · rw [ho] at ho'
    injection ho' with ho'
    subst ho'
    exact .inr (he e hm hb)
  · exact .inr (h.closed j o' ho' hl e hm hb)
theorem known_opX {o : Oper} {t : Nat} (hk : known ops [] o t = true) : ∃ e ∈ o.after, Region.binds .any e = true ∧ (ops[e.on]?).bind Oper.dst = some t := by
  unfold known at hk
  simp only [List.contains_nil, Bool.false_or] at hk
  obtain ⟨e, he, h⟩ := Array.any_eq_true'.1 hk
  simp only [Bool.and_eq_true, beq_iff_eq] at h
  exact ⟨e, he, h.1, h.2⟩
theorem XInv.step (hok : formOk ops base N = true) (hsoft : ∀ t, (F t).SoftG g) (hobs : ∀ j o', ops[j]? = some o' → XOb ops F base N p k zs vs f Q j o') {a0 : Act} {w0 : World} {listed : Array Bool} {a : Act} {w : World} (h : XInv ops F base N g p k zs vs a0 w0 listed a w) (hs : listed.size = ops.size) {i : Nat} {o : Oper} (ho : ops[i]? = some o)
    (hl0 : listed.getD i false = false) (he : ∀ e ∈ o.after, Region.binds .any e = true → listed.getD e.on false = true) (K : Act → World → Prop) (hK : ∀ a' w', XInv ops F base N g p k zs vs a0 w0 (listed.setIfInBounds i true) a' w' → K a' w') :
    (if Region.wanted o (yielded ops a.tmps) = true then Oper.wp Tryz.prog o a w K Q else K (a.put o.dst undef) w) := by
  have hdone : ∀ e ∈ o.after, Region.binds .any e = true → ∀ t, (ops[e.on]?).bind Oper.dst = some t → (F t).holds (a.tmps.getD t undef) w := fun e hm hb t ht => h.done e.on t (he e hm hb) ht
  have hlt : i < listed.size := by rw [hs]; exact (Array.getElem?_eq_some_iff.1 ho).1
  obtain ⟨_, hd⟩ := formOk_at hok ho
  cases hobs i o ho with
  | plain hob hp hk =>
    refine hob a w K h.tsize h.base hdone fun v w' hb hF => hK _ _ ?_
    refine ⟨?_, ?_, fun t ht => ?_, fun j t hj hjt => ?_, fun t ht => ?_, h.below.trans (hb.mono h.gle), Nat.le_trans h.gle hb.size, fun j hj hjd => ?_, h.closed' hs ho he⟩
    · cases o.dst <;> simpa [Act.put] using h.tsize
    · cases o.dst <;> simpa [Act.put] using h.defers
    · rw [getD_put_other (fun e => (hd t e).2.1 ht)]
      exact (F t).stable _ _ _ (h.base t ht) hb
    · by_cases hji : j = i
      · subst hji
        rw [ho] at hjt
        have hjt' : o.dst = some t := hjt
        rw [hjt', getD_put_same (by rw [h.tsize]; exact (hd t hjt').1)]
        exact hF t hjt'
      · have hl : listed.getD j false = true := ((listed_set hlt).1 hj).resolve_left hji
        rw [getD_put_other (fun e => (hd t e).2.2 j hji hjt)]
        exact (F t).stable _ _ _ (h.done j t hl hjt) hb
    · rw [getD_put_other (fun e => ht i (by rw [ho]; exact e))]
      exact h.other t ht
    · have hj' : listed.getD j false = true := ((listed_set hlt).1 hj).resolve_left (by
        rintro rfl
        rw [ho] at hjd
        exact hp hjd)
      obtain ⟨b, h1, h2, h3, h4⟩ := h.made j hj' hjd
      have hkk : (listed.setIfInBounds i true).getD k false = listed.getD k false := by
        have := listed_set (j := k) hlt
        cases hx : listed.getD k false
        · rw [Bool.eq_false_iff]
          intro hc
          rcases this.1 hc with e | e
          · exact hk e.symm
          · rw [hx] at e; cases e
        · exact this.2 (.inr hx)
      rw [hkk]
      exact ⟨b, by rw [getD_put_other hp]; exact h1, h2, fun hl => (h3 hl).next hb, fun hl => (h4 hl).next hb⟩
  | alloc hds hg hF hk hrun =>
    obtain ⟨w', hr, hb, hx⟩ := hrun a w
    rw [if_pos (by simp [Region.wanted, hg])]
    unfold Oper.wp
    rw [hr]
    have hps := (hd p hds)
    have hput : (a.put o.dst (ptr0 w.heap.size)).tmps.getD p undef = ptr0 w.heap.size := by
      rw [hds, getD_put_same (by rw [h.tsize]; exact hps.1)]
    have hold : ∀ t, t ≠ p → (a.put o.dst (ptr0 w.heap.size)).tmps.getD t undef = a.tmps.getD t undef := fun t ht => getD_put_other (by rw [hds]; intro e; injection e with e; exact ht e.symm)
    have hnk : listed.getD k false = false := by
      cases hc : listed.getD k false with
      | false => rfl
      | true =>
        exfalso
        have hlt2 : k < ops.size := by
          rcases Nat.lt_or_ge k listed.size with h1 | h1
          · rw [← hs]; exact h1
          · rw [Array.getD_eq_getD_getElem?, Array.getElem?_eq_none h1] at hc; cases hc
        have ho' : ops[k]? = some ops[k] := Array.getElem?_eq_getElem hlt2
        cases hobs k _ ho' with
        | plain _ _ h2 => exact h2 rfl
        | alloc _ _ _ h2 => exact h2 rfl
        | store _ _ _ hkn _ _ =>
          obtain ⟨e, hem, hb', hdst⟩ := known_opX hkn
          have h4 := h.closed _ _ ho' hc e hem hb'
          have h5 : e.on = i := by
            by_cases h6 : e.on = i
            · exact h6
            · exact absurd hdst (hps.2.2 e.on h6)
          rw [h5, hl0] at h4
          cases h4
    have hnk2 : (listed.setIfInBounds i true).getD k false = false := by
      rw [Bool.eq_false_iff]
      intro hc
      rcases (listed_set hlt).1 hc with e | e
      · exact hk e.symm
      · rw [hnk] at e; cases e
    refine hK _ _ ⟨?_, ?_, fun t ht => ?_, fun j t hj hjt => ?_, fun t ht => ?_, h.below.trans (hb.mono h.gle), Nat.le_trans h.gle hb.size, fun j hj hjd => ?_, h.closed' hs ho he⟩
    · cases o.dst <;> simpa [Act.put] using h.tsize
    · cases o.dst <;> simpa [Act.put] using h.defers
    · rw [hold t (fun e => hps.2.1 (e ▸ ht))]
      exact (F t).stable _ _ _ (h.base t ht) hb
    · by_cases hts : t = p
      · subst hts
        rw [hF]
        trivial
      · rw [hold t hts]
        refine (F t).stable _ _ _ (h.done j t (((listed_set hlt).1 hj).resolve_left ?_) hjt) hb
        rintro rfl
        rw [ho] at hjt
        exact hts (by have h5 : o.dst = some t := hjt; rw [hds] at h5; injection h5 with h5; exact h5.symm)
    · rw [hold t (by rintro rfl; exact ht i (by rw [ho]; exact hds))]
      exact h.other t ht
    · exact ⟨w.heap.size, hput, h.gle, fun _ => hx, fun hl => by rw [hnk2] at hl; cases hl⟩
  | store hi hd0 hg hkn hk2 hrun =>
    have hlk : listed.getD k false = false := by rw [← hi]; exact hl0
    rw [if_pos (by simp [Region.wanted, hg])]
    obtain ⟨e, hem, heb, hed⟩ := known_opX hkn
    obtain ⟨b, h1, h2, h3, _⟩ := h.made e.on (he e hem heb) hed
    have hf := known_fact h.base hdone hk2
    obtain ⟨w', hr, hgw, hx⟩ := hrun a w b h1 (h3 hlk) hf
    unfold Oper.wp
    rw [hr]
    have hput : a.put o.dst undef = a := by rw [hd0]; rfl
    show K (a.put o.dst undef) _
    rw [hput]
    have hold : ∀ m d, (listed.setIfInBounds i true).getD m false = true → (ops[m]?).bind Oper.dst = some d → listed.getD m false = true := fun m d hm hmd => ((listed_set hlt).1 hm).resolve_left (by
      rintro rfl
      rw [ho] at hmd
      have h5 : o.dst = some d := hmd
      rw [hd0] at h5; cases h5)
    have hii : (listed.setIfInBounds i true).getD k false = true := (listed_set hlt).2 (.inl hi.symm)
    exact hK _ _ ⟨h.tsize, h.defers, fun t ht => hsoft t _ _ _ _ (h.base t ht) h.gle h2 hgw, fun m t hm hmt => hsoft t _ _ _ _ (h.done m t (hold m t hm hmt) hmt) h.gle h2 hgw, h.other, h.below.grown hgw h.gle (fun j hj => by cases hj; exact h2), Nat.le_trans h.gle hgw.size, fun m hm hmd => ⟨b, h1, h2, fun hl => (by rw [hii] at hl; cases hl), fun _ => hx⟩, h.closed' hs ho he⟩
end
/-- **A region that makes one new variable and stores into it once**, whatever its order, and what comes behind it. -/
theorem wp_region_box {Q : Exit → Act → World → Prop} {id : Nat} {l : List Oper} {a : Act} {w : World} (hm : Tryz.prog.follows .mixedOrders = true) (F : Nat → Fact) (base : List Nat) (N : Nat) (p k f : Nat) (zs vs : List Value) (ds : List Nat) (hN : a.tmps.size = N) (hok : formOk l.toArray base N = true) (hback : backOk l.toArray = true) (hds : dstsOk l ds = true) (hpk : (ds.contains p && decide (k < l.length)) = true)
    (hsoft : ∀ t, (F t).SoftG w.heap.size) (hbase : ∀ t ∈ base, (F t).holds (a.tmps.getD t undef) w) (hstep : ∀ q ∈ l.zipIdx, XOb l.toArray F base N p k zs vs f Q q.2 q.1)
    (hend : ∀ (v : Nat → Value) w', (∀ t ∈ ds, (F t).holds (v t) w') → (∃ b, v p = ptr0 b ∧ w.heap.size ≤ b ∧ Bx w' b vs) → Below w.heap.size w w' → Q .normal { tmps := lay a.tmps ds v, defers := a.defers } w') : (Code.region id l.toArray true).wp Tryz.prog Q a w := by
  have hobs : ∀ j o', l.toArray[j]? = some o' → XOb l.toArray F base N p k zs vs f Q j o' := fun j o' h => by
    rw [List.getElem?_toArray] at h
    exact hstep (o', j) (List.mem_of_getElem? (i := j) (by rw [List.getElem?_zipIdx, h]; simp))
  have hnone : ∀ i, (Array.replicate l.length false).getD i false = true → False := fun i hi => by
    rw [Array.getD_eq_getD_getElem?, Array.getElem?_replicate] at hi
    split at hi <;> simp at hi
  simp only [Bool.and_eq_true, decide_eq_true_eq] at hpk
  refine wp_region_inv hm hback (XInv l.toArray F base N w.heap.size p k zs vs a w) ?_ (fun i o listed a' w' ho hs hl0 he h K hK => h.step hok hsoft hobs hs ho hl0 he K hK) fun listed a' w' hs hl h => ?_
  · exact ⟨hN, rfl, fun t ht => (F t).stable _ _ _ (hbase t ht) (Below.refl _ _).drew, fun i _ hi _ => (hnone i hi).elim, fun _ _ => rfl, (Below.refl _ _).drew, Nat.le_refl _, fun i hi _ => (hnone i hi).elim, fun i _ _ hi => (hnone i hi).elim⟩
  · have hw : ∀ t ∈ ds, ∃ i, listed.getD i false = true ∧ (l.toArray[i]?).bind Oper.dst = some t := fun t ht => by
      have h1 := hds
      simp only [dstsOk, Bool.and_eq_true] at h1
      have h2 := List.any_eq_true.1 (List.all_eq_true.1 h1.2 t ht)
      obtain ⟨o, ho, hd⟩ := h2
      obtain ⟨i, hi⟩ := List.getElem?_of_mem ho
      have hlt : i < l.toArray.size := by simpa using (List.getElem?_eq_some_iff.1 hi).1
      exact ⟨i, hl i hlt, by rw [List.getElem?_toArray, hi]; exact (by simpa using hd)⟩
    have hq := hend (fun t => a'.tmps.getD t undef) w' (fun t ht => by
      obtain ⟨i, hi, hd⟩ := hw t ht
      exact h.done i t hi hd) (by
      obtain ⟨i, hi, hd⟩ := hw p (by simpa using hpk.1)
      obtain ⟨b, h1, h2, _, h4⟩ := h.made i hi hd
      exact ⟨b, h1, h2, h4 (hl k (by simpa using hpk.2))⟩) h.below
    have heq : a' = { tmps := lay a.tmps ds fun t => a'.tmps.getD t undef, defers := a.defers } := by
      have hoth := h.other
      have hsz := h.tsize
      have hdef := h.defers
      clear hq hw h hs hl hobs hstep hend hbase
      obtain ⟨ts, df⟩ := a'
      have hdef' : df = a.defers := hdef
      subst hdef'
      congr 1
      have hsz' : ts.size = N := hsz
      refine Array.ext_getElem? fun t => ?_
      rcases Nat.lt_or_ge t N with hlt | hge
      · by_cases htd : t ∈ ds
        · rw [lay_at ds _ _ t htd (by omega), Array.getD_eq_getD_getElem?, Array.getElem?_eq_getElem (by omega)]; rfl
        · rw [lay_other ds _ _ t htd]
          have := hoth t fun i hi => by
            have h1 := hds
            simp only [dstsOk, Bool.and_eq_true] at h1
            rw [List.getElem?_toArray] at hi
            cases hl : l[i]? with
            | none => rw [hl] at hi; cases hi
            | some o =>
              rw [hl] at hi
              have h2 := List.all_eq_true.1 h1.1 o (List.mem_of_getElem? hl)
              have h3 : o.dst = some t := hi
              rw [h3] at h2
              exact htd (by simpa using h2)
          have h2 : ts.getD t undef = a.tmps.getD t undef := this
          rw [Array.getD_eq_getD_getElem?, Array.getD_eq_getD_getElem?, Array.getElem?_eq_getElem (by omega), Array.getElem?_eq_getElem (by omega)] at h2
          rw [Array.getElem?_eq_getElem (by omega), Array.getElem?_eq_getElem (by omega)]
          exact congrArg some h2
      · rw [Array.getElem?_eq_none (by omega), Array.getElem?_eq_none (by rw [lay_size]; omega)]
    rw [heq]
    exact hq
theorem at_soft (W0 : World) (u : Value) : (Fact.at_ W0 u).SoftG W0.heap.size := fun _ w _ _ ⟨h1, h2⟩ hg hb hgr => ⟨h1, h2.grown hgr hg (fun j hj => by cases hj; exact hb)⟩
theorem FF_soft {ks : List (Nat × Fact)} {g : Nat} (h : ∀ q ∈ ks, q.2.SoftG g) (t : Nat) : (FF ks t).SoftG g := by
  unfold FF
  cases e : ks.lookup t with
  | none => exact fun _ _ _ _ _ _ _ _ => trivial
  | some F =>
    have : (t, F) ∈ ks := by
      clear h
      induction ks with
      | nil => cases e
      | cons q ks ih =>
        obtain ⟨s, G⟩ := q
        rw [List.lookup_cons] at e
        cases hs : t == s with
        | true => rw [hs] at e; injection e with e; subst e; rw [show s = t from (by simpa using hs : t = s).symm]; exact List.mem_cons_self ..
        | false => rw [hs] at e; exact List.mem_cons_of_mem _ (ih e)
    exact h _ this
theorem Bx.put1 {w : World} {b : Nat} {vs : List Value} (h : Bx w b vs) (j : Nat) (v : Value) : Bx (w.setCell ⟨b, j, none⟩ v) b (vs.set j v) := by
  refine ⟨by simp; exact h.lt, fun i u e => ?_⟩
  have fr : (w.setCell ⟨b, j, none⟩ v).frozen? ⟨b, i, none⟩ = w.frozen? ⟨b, i, none⟩ := by simp
  rw [fr]
  by_cases hij : j = i
  · subst hij
    have hl : j < vs.length := by
      have := (List.getElem?_eq_some_iff.1 e).1
      simpa using this
    rw [List.getElem?_set_self hl] at e
    cases e
    have h1 := h.at_ j _ (List.getElem?_eq_getElem hl)
    exact ⟨World.cell?_setCell_same (h := h1.1) .., h1.2⟩
  · rw [List.getElem?_set_ne hij] at e
    have nn : (⟨b, j, none⟩ : Addr) ≠ ⟨b, i, none⟩ := fun e => hij (by injection e)
    exact ⟨(World.cell?_setCell_other (h := nn) ..).trans (h.at_ i u e).1, (h.at_ i u e).2⟩
theorem Bx.put2 {w : World} {b : Nat} {x y : Value} (h : Bx w b [x, y]) (x' y' : Value) : Bx ((w.setCell ⟨b, 0, none⟩ x').setCell ⟨b, 1, none⟩ y') b [x', y'] := (h.put1 0 x').put1 1 y'
theorem Bx.put3 {w : World} {b : Nat} {x y z : Value} (h : Bx w b [x, y, z]) (x' y' z' : Value) : Bx (((w.setCell ⟨b, 0, none⟩ x').setCell ⟨b, 1, none⟩ y').setCell ⟨b, 2, none⟩ z') b [x', y', z'] := ((h.put1 0 x').put1 1 y').put1 2 z'
theorem gb_set1 (w : World) (p : Addr) (u : Value) : w.grownBy (w.setCell p u) (some p.block) :=
  have b := Below.setCell (Below.refl 0 w) (Nat.zero_le p.block) u
  ⟨b.os, b.tape, b.output, b.size, fun i _ hne => Below.heap_setCell w p u i (fun e => hne (by rw [e]))⟩
theorem gb_set2 (w : World) (b : Nat) (x y : Value) : w.grownBy ((w.setCell ⟨b, 0, none⟩ x).setCell ⟨b, 1, none⟩ y) (some b) := (gb_set1 w ⟨b, 0, none⟩ x).trans (gb_set1 _ ⟨b, 1, none⟩ y)
theorem gb_set3 (w : World) (b : Nat) (x y z : Value) : w.grownBy (((w.setCell ⟨b, 0, none⟩ x).setCell ⟨b, 1, none⟩ y).setCell ⟨b, 2, none⟩ z) (some b) := (gb_set2 w b x y).trans (gb_set1 _ ⟨b, 2, none⟩ z)
end Go.Proofs.YthbhbpcjcnkkkaaGreatDoor
