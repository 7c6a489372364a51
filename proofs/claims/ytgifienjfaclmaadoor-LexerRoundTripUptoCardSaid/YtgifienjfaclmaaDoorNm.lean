/-
  Contract of the developers' Print. At most 60 tokens of at most 1048576 bytes; no conditions beyond those that each names.
-/
import Derived.Test.YtgifienjfaclmaaDoorNl
import Derived.Test.YtgifienjfaclmaaDoorLo
import Derived.Test.YtgifienjfaclmaaDoorLs
namespace Go.Proofs.YtgifienjfaclmaaDoor
open Go.RowKit
/-- Strings as cells. -/
def wcells (l : List (List UInt8)) : List Value := l.map fun x => .string (bs x)
/-- The slice v owns the strings l. -/
def Ws (B : Nat) (w : World) (v : Value) (l : List (List UInt8)) : Prop := w.ownsRow B 9 1 v l.length (wcells l)
theorem Ws.nil (B : Nat) (w : World) : Ws B w (.slice none 0 0) [] := World.ownsRow_nil _ _ _ _
theorem Ws.other {B : Nat} {w w' : World} {v : Value} {l : List (List UInt8)} (h : Ws B w v l) (hb : Below w.heap.size w w') : Ws B w' v l := by
  unfold Ws World.ownsRow at *
  refine ⟨h.1, ?_⟩
  rcases h.2 with h1 | ⟨g, cap, cur, h1, h2, h3, h4⟩
  · exact .inl h1
  · refine .inr ⟨g, cap, cur, h1, h2, ?_, h4⟩
    rw [hb.block g (Array.getElem?_eq_some_iff.1 h3).1]
    exact h3
theorem infoS : (Tryd.prog.info? 9).map (fun i => (i.zero, i.size, i.bytes)) = some (some (.string ⟨#[]⟩), 1, 16) := by kernel_rfl
theorem wpList_pushW {w : World} {ops : Array Oper} {rest : List Oper} {o : Oper} {a : Act} {Q : Exit → Act → World → Prop} (hgd : o.guard = none) (s x : Operand)
    (ho : o.op = .call { callee := .builtin .append, args := #[s, x], argTypes := #[44, 44] }) (B : Nat) (v : Value) (l : List (List UInt8)) (b : List UInt8) (ad : Addr) (d : Nat) (hs : a.eval s = v) (hx : a.eval x = .slice (some ad) 1 d)
    (hown : Ws B w v l) (hc : w.cell? ad = some (.string (bs b))) (hm : l.length ≤ 100000) (hB : B ≤ w.heap.size)
    (h : ∀ v' w', Ws B w' v' (l ++ [b]) → w.grownBy w' v.ownBlock → wpList Tryd.prog ops Q rest (a.put o.dst v') w') : wpList Tryd.prog ops Q (o :: rest) a w := by
  obtain ⟨i, hi, hz, hs5, hby⟩ := info_parts infoS
  refine wpList_append_own_at w hgd s x 44 ho B 9 i _ 1 16 Tryd.underlying44 hi hz hs5 hby rfl (by omega) v l.length (wcells l) hs hown ad 1 d [.string (bs b)] hx rfl
    (by intro j u hj
        cases j with
        | zero => simp at hj; subst hj; rw [Addr.add_zero']; exact hc
        | succ j => simp at hj) (by simp [Value.oneCell']) (by simp only [maxLen]; omega) (by omega) hB ?_
  intro v' w' h1 h2 _ _
  refine h v' w' ?_ h2
  unfold Ws
  rw [show wcells (l ++ [b]) = wcells l ++ [.string (bs b)] by simp [wcells], List.length_append]
  exact h1
theorem join_cons2 (x y : List UInt8) (r : List (List UInt8)) : Lib.join (x :: y :: r) [32] = x ++ 32 :: Lib.join (y :: r) [32] := by
  rw [Lib.join_cons, Lib.join_cons]
  simp [Lib.joinTail]
theorem join_pj : ∀ ts : List Tk, Lib.join (ts.map pr) [32] = pj ts
  | [] => rfl
  | [t] => by rw [List.map_cons, List.map_nil, Lib.join_one]; rfl
  | t :: u :: ts => by
    rw [List.map_cons, List.map_cons, join_cons2, ← List.map_cons, join_pj (u :: ts)]
    rfl
/-- Join of owned strings by a space. -/
theorem join_any (B : Nat) (v : Value) (xs : List (List UInt8)) (w : World) (h : Ws B w v xs) (hx : xs.length ≤ 100) (hl : (Lib.join xs [32]).length ≤ 140737488355328) :
    Calls Tryd.prog 27 #[v, .string (bs [32])] w (Ib (.string (bs (Lib.join xs [32]))) w) := by
  have e : (xs.map bs).map (·.data.toList) = xs := by simp [Function.comp_def, bs_list]
  obtain ⟨h0, h⟩ := h
  rcases h with ⟨rfl, hn⟩ | ⟨g, cap, cur, rfl, hB, hg, h1, h2, h3, h4⟩
  · obtain rfl : xs = [] := List.eq_nil_of_length_eq_zero hn
    refine (Tryd.strings_Join_none none 0 (bs [32]) w).mono ?_
    rintro e w' ⟨rfl, rfl⟩
    exact ⟨rfl, Below.refl _ _⟩
  · have hcs := World.ownsRow.cells (w := w) (base := B) (e := 9) (size := 1) (v := .slice (some ⟨g, 0, none⟩) xs.length cap) (n := xs.length) (xs := wcells xs) ⟨h0, .inr ⟨g, cap, cur, rfl, hB, hg, h1, h2, h3, h4⟩⟩ rfl
    have hcells : ∀ (j : Nat) x, (xs.map bs)[j]? = some x → w.cell? ⟨g, 0 + j, none⟩ = some (.string x) := by
      intro j x hj
      have := hcs j (.string x) (by
        unfold wcells
        rw [List.getElem?_map] at hj ⊢
        cases e : xs[j]? with
        | none => rw [e] at hj; cases hj
        | some y => rw [e] at hj; cases hj; rfl)
      rw [plain_add] at this
      exact this
    have hk := Tryd.strings_Join g 0 cap (xs.map bs) (bs [32]) w hcells (Array.getElem?_eq_some_iff.1 hg).1 (by rw [List.length_map]; omega) (by rw [List.length_map]; exact h1) (by rw [e]; exact hl)
    rw [e, List.length_map] at hk
    refine hk.mono ?_
    rintro e w' ⟨rfl, hb⟩
    exact ⟨rfl, hb⟩
theorem prs_len (q : Nat → Tv) (n : Nat) (h : ∀ i, i < n → (q i).ok) : ∀ i, i ≤ n → (prs [] (tks q i)).length ≤ 403 * i := by
  intro i
  induction i with
  | zero => intro _; exact Nat.le_refl _
  | succ i ih =>
    intro hi
    have := ih (by omega)
    rw [tks_succ, prs_snoc]
    split
    · rename_i hk
      have h2 := pr_len (q i) (h i (by omega)) hk
      rw [List.length_append]
      split
      · simp; omega
      · simp; omega
    · omega
theorem numIn_tks (q : Nat → Tv) (n : Nat) (h : ∀ i, i < n → (q i).ok) : ∀ t ∈ tks q n, numIn t := by
  intro t ht _
  unfold tks at ht
  rw [List.mem_map] at ht
  obtain ⟨j, hj, rfl⟩ := ht
  exact (h j (by simpa using hj)).2
set_option maxRecDepth 100000 in
set_option maxHeartbeats 2000000 in
theorem printD_any (A : Option Addr) (n c : Nat) (q : Nat → Tv) (w : World) (hn : n ≤ 60) (hA : Tvs w A n q) (hL : ∀ i, i < n → (q i).text.length ≤ 1048576) (hE : Env w) (hM : Mx w) :
    Calls Tryd.prog 11 #[.slice A n c] w (Ib (.string (bs (prs [] (tks q n)))) w) := by
  have HA := Lib.hid hA
  have HL := Lib.hid hL
  have hok : ∀ i, i < n → (q i).ok := by
    rcases hA with h0 | ⟨a, -, -, h⟩
    · intro i hi; omega
    · exact fun i hi => (h i hi).1
  have HJ := Lib.hid (show Lib.join (((tks q n).filter okT).map pr) [32] = prs [] (tks q n) by rw [join_pj, prs_pj _ (numIn_tks q n hok)])
  have HJL := Lib.hid (prs_len q n hok n (Nat.le_refl _))
  clear hA hL hok
  have hn1 : (⟨#[32]⟩ : ByteArray) = bs [32] := rfl
  go_enter Tryd.func11, Tryd.ntmps11
  go_wp2_with fail
  go_loopw [3, 8] (fun u v wr => ∃ (i : Nat) (xs : List (List UInt8)), i ≤ n ∧ v = .int .i64 (i : Int) ∧ Ws w.heap.size wr u xs ∧ Below w.heap.size w wr ∧ xs.length ≤ i ∧ Hid (xs = ((tks q i).filter okT).map pr)) (fun _ v _ => n - (intOf v).toNat)
  case atStart => exact ⟨0, [], by omega, rfl, Ws.nil _ _, Below.refl _ _, by simp, Lib.hid rfl⟩
  case round =>
    obtain ⟨i, xs, hi, rfl, ho, hb, hxl, hI⟩ := hrel
    have hB2 : ∀ (w2 : World) (o p : Obj), Below wr.heap.size wr w2 → w.heap.size ≤ ((w2.alloc o).alloc p).heap.size := fun w2 o p h => Nat.le_trans hb.size (Nat.le_trans h.size (two_ _ _).size)
    by_cases hin : i < n
    · rcases HA.out with h0 | ⟨a, rfl, hab, hc⟩
      · omega
      obtain ⟨ok, c0, c1, c2, c3⟩ := hc i hin
      have ad : ∀ j, ((a.add (i * 4)).add j).block = a.block := fun j => by rw [add_block, add_block]
      replace c0 := (hb.cell (p := (a.add (i * 4)).add 0) (by rw [ad]; exact hab)).trans c0
      replace c1 := (hb.cell (p := (a.add (i * 4)).add 1) (by rw [ad]; exact hab)).trans c1
      replace c2 := (hb.cell (p := (a.add (i * 4)).add 2) (by rw [ad]; exact hab)).trans c2
      replace c3 := (hb.cell (p := (a.add (i * 4)).add 3) (by rw [ad]; exact hab)).trans c3
      have hTl := HL.out i hin
      have hS : ((tks q (i + 1)).filter okT).map pr = if okT (q i).tk = true then xs ++ [pr (q i).tk] else xs := by
        rw [tks_succ, List.filter_append, List.map_append, ← hI.out]
        by_cases h : okT (q i).tk = true
        · rw [if_pos h, List.filter_cons_of_pos h]; rfl
        · rw [if_neg h, List.filter_cons_of_neg h]; simp
      generalize q i = x at c0 c1 c2 c3 ok hS hTl
      obtain ⟨K, T, N, P⟩ := x
      have c0 : wr.cell? (a.add (i * 4)) = some (.int .i64 K) := c0
      have c1 : wr.cell? ⟨(a.add (i * 4)).block, (a.add (i * 4)).off + 1, none⟩ = some (.string (bs T)) := c1
      have c2 : wr.cell? ⟨(a.add (i * 4)).block, (a.add (i * 4)).off + 2, none⟩ = some (.int .i64 N) := c2
      have c3 : wr.cell? ⟨(a.add (i * 4)).block, (a.add (i * 4)).off + 3, none⟩ = some (.int .i64 P) := c3
      have hTl : T.length ≤ 1048576 := hTl
      obtain ⟨f, hf⟩ : ∃ f, i + 1 = f := ⟨_, rfl⟩
      have l11 : (i : Int) + 1 = (f : Int) := by omega
      rw [hf] at hS
      have hV0 := V4.new wr (.int .i64 K) (.string (bs T)) (.int .i64 N) (.int .i64 P) 32
      have hg1 := grown1 (w := wr) (Obj.cells #[.int .i64 K, .string (bs T), .int .i64 N, .int .i64 P] 32)
      have hb1 := Below.next hb hg1
      have cV := fun W (hW : Below w.heap.size w W) => isValid_any K T N P W ok.2.1 ok.2.2 (by omega) (hE.next hW) (fun _ => ⟨hTl, hM.next hW⟩)
      have cW := fun W (hW : Below w.heap.size w W) => written_any K T N P W ok.2.1 ok.2.2 (hE.next hW) (fun _ => ⟨hTl, hM.next hW⟩)
      have hK0 := okT_nonneg (K := K) (T := T) (N := N) (A := P)
      have hwp := wrt_pr K T N P
      obtain ⟨b, hbk⟩ : ∃ b, okT (Tv.tk ⟨K, T, N, P⟩) = b := ⟨_, rfl⟩
      have hS : ((tks q f).filter okT).map pr = if b = true then xs ++ [pr (Tv.tk ⟨K, T, N, P⟩)] else xs := by rw [← hbk]; exact hS
      rw [hbk] at cV hK0
      clear hc hI HA HL ad hbk
      cases b
      · rw [if_neg (by simp)] at hS
        have H := Lib.hid hS.symm
        clear hS hK0 hwp
        go_wp2_with fail
        refine (cV _ hb1).mono ?_
        rintro e w2 ⟨rfl, h2⟩
        have ho2 := (ho.other hg1).other h2
        have hb2 := Below.next hb1 h2
        clear cV cW
        go_wp2_with fail
        go_roundw
        case rel => exact ⟨f, xs, by omega, rfl, ho2, hb2, by omega, H⟩
        case measure => simp [intOf]; omega
      · rw [if_pos rfl, ← hwp (hK0 rfl)] at hS
        have H := Lib.hid hS.symm
        clear hS hK0 hwp
        generalize wrt K T N = X at *
        go_wp2_with fail
        refine (cV _ hb1).mono ?_
        rintro e w2 ⟨rfl, h2⟩
        have hb2 := Below.next hb1 h2
        have ho2 := (ho.other hg1).other h2
        obtain ⟨v0, v1, v2, v3, v4, v5, v6, v7, v8⟩ := hV0.next h2
        clear cV hV0 c0 c1 c2 c3
        go_wp2_with fail
        refine (cW _ hb2).mono ?_
        rintro e w3 ⟨rfl, h3⟩
        have hb3 := Below.next hb2 h3
        have ho3 := ho2.other h3
        clear cW
        go_wp2_with (at_builtin; refine wpList_pushW rfl (.tmp 14) (.tmp 17) rfl w.heap.size u3 xs X _ 1 rfl rfl (ho3.other (one _ _)) (by simp) (by omega) (Nat.le_trans hb3.size (one _ _).size) ?_; intro v' w4 ho' hg')
        go_roundw
        case rel => exact ⟨f, xs ++ [X], by omega, rfl, ho', (Below.next hb3 (one _ _)).grown hg' (Nat.le_trans hb3.size (one _ _).size) (fun q hq => (ho3.lt q hq).1), by simp; omega, H⟩
        case measure => simp [intOf]; omega
    · obtain rfl : i = n := by omega
      have hJ := HJ.out
      rw [← hI.out] at hJ
      have cJ := join_any w.heap.size u3 xs wr ho (by omega) (by rw [hJ]; have := HJL.out; omega)
      rw [hJ] at cJ
      have HJ := Lib.hid hJ
      clear hI hJ HA HL HJL
      go_wp2_with fail
      refine cJ.mono ?_
      rintro e w2 ⟨rfl, h2⟩
      go_wp2_with fail
      go_ret
      exact ⟨rfl, Below.next hb h2⟩
end Go.Proofs.YtgifienjfaclmaaDoor
