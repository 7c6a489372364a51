/-
  Numbers: what ParseInt and isDecimal say of digits with an optional minus sign. No conditions beyond those that each names.
-/
import Derived.Test.YtcilkcnddgacgaaGreatDoorQM06
import Derived.Lib.ParseIntB
import Derived.Lib.ItoaNum
import Derived.Lib.Replace
import Derived.Lib.Join
namespace Go.Proofs.YtcilkcnddgacgaaGreatDoor
open Go.RowKit
def dstep (n : Nat) (c : UInt8) : Nat := 10 * n + (c.toNat - 48)
theorem dstep_ge (ds : List UInt8) (a : Nat) : a ≤ ds.foldl dstep a := by
  induction ds generalizing a with
  | nil => exact Nat.le_refl _
  | cons c r ih =>
    rw [List.foldl_cons]
    have := ih (dstep a c)
    unfold dstep at this ⊢
    omega
theorem pum (ds : List UInt8) (hd : ∀ c ∈ ds, isD c = true) : ∀ a, a ≤ 18446744073709551615 → Lib.parseUintM 18446744073709551615 a ds = if 18446744073709551615 < ds.foldl dstep a then .range else .ok (ds.foldl dstep a) := by
  induction ds with
  | nil =>
    intro a ha
    rw [Lib.parseUintM, List.foldl_nil, if_neg (by omega)]
  | cons c r ih =>
    intro a ha
    have hc := isD_in (hd c (by simp))
    have hge := dstep_ge r (dstep a c)
    have hds : dstep a c = 10 * a + (c.toNat - 48) := rfl
    rw [Lib.parseUintM, if_pos hc, List.foldl_cons]
    by_cases h1 : 1844674407370955162 ≤ a
    · rw [if_pos h1, if_pos (by omega)]
    · rw [if_neg h1]
      by_cases h2 : 18446744073709551615 < a * 10 + (c.toNat - 48)
      · rw [if_pos h2, if_pos (by omega)]
      · rw [if_neg h2, show a * 10 + (c.toNat - 48) = dstep a c by omega]
        exact ih (fun c hc => hd c (by simp [hc])) _ (by omega)
theorem pub (ds : List UInt8) (hd : ∀ c ∈ ds, isD c = true) (h0 : ds ≠ []) : Lib.parseUintB 64 ds = if 18446744073709551615 < dval ds then .range else .ok (dval ds) := by
  unfold Lib.parseUintB
  rw [if_neg h0]
  exact pum ds hd 0 (by decide)
theorem pib_pos (ds : List UInt8) (hd : ∀ c ∈ ds, isD c = true) (h0 : ds ≠ []) : Lib.parseIntB 64 ds = if 9223372036854775807 < dval ds then .range else .ok (dval ds : Int) := by
  have h := pub ds hd h0
  cases ds with
  | nil => exact absurd rfl h0
  | cons c r =>
    have hc := isD_in (hd c (by simp))
    unfold Lib.parseIntB
    simp only
    rw [if_neg (by omega), h]
    generalize dval (c :: r) = v
    by_cases h1 : 18446744073709551615 < v
    · rw [if_pos h1, if_pos (by omega)]
    · rw [if_neg h1]
      simp only
      by_cases h2 : 9223372036854775807 < v
      · rw [if_pos h2, if_pos ⟨by omega, by omega⟩]
      · rw [if_neg h2, if_neg (by omega), if_neg (by omega), if_neg (by omega)]
theorem pib_neg (ds : List UInt8) (hd : ∀ c ∈ ds, isD c = true) (h0 : ds ≠ []) : Lib.parseIntB 64 (45 :: ds) = if 9223372036854775808 < dval ds then .range else .ok (-(dval ds : Int)) := by
  have h := pub ds hd h0
  unfold Lib.parseIntB
  simp only
  rw [if_pos (.inr rfl), h]
  generalize dval ds = v
  have e : (45 : UInt8).toNat = 45 := rfl
  by_cases h1 : 18446744073709551615 < v
  · rw [if_pos h1, if_pos (by omega)]
  · rw [if_neg h1]
    simp only
    rw [if_neg (by omega)]
    by_cases h2 : 9223372036854775808 < v
    · rw [if_pos h2, if_pos ⟨e, by omega⟩]
    · rw [if_neg h2, if_neg (by omega), if_pos e]
/-- The text of a number. -/
def ntx (neg : Bool) (ds : List UInt8) : List UInt8 := if neg then 45 :: ds else ds
/-- Is a text a number in the only form that is accepted? -/
def nz (x : List UInt8) : Bool := match x with | [] => false | c :: _ => c != 48
def dcm (x : List UInt8) : Bool := x == [48] || nz (Lib.trimPrefix x [45])
theorem trim_neg (ds : List UInt8) : Lib.trimPrefix (45 :: ds) [45] = ds := by
  unfold Lib.trimPrefix Lib.hasPrefix
  simp
theorem trim_pos (ds : List UInt8) (hd : ∀ c ∈ ds, isD c = true) : Lib.trimPrefix ds [45] = ds := by
  unfold Lib.trimPrefix Lib.hasPrefix
  cases ds with
  | nil => rfl
  | cons c r =>
    have hc := isD_in (hd c (by simp))
    rw [if_neg]
    simp
    intro h
    subst h
    revert hc
    decide
theorem dcm_neg (ds : List UInt8) : dcm (45 :: ds) = nz ds := by
  unfold dcm
  rw [trim_neg]
  have : ((45 :: ds : List UInt8) == [48]) = false := by simp
  rw [this, Bool.false_or]
theorem dcm_pos (ds : List UInt8) (hd : ∀ c ∈ ds, isD c = true) : dcm ds = (ds == [48] || nz ds) := by
  unfold dcm
  rw [trim_pos ds hd]
theorem num_text (neg : Bool) (ds : List UInt8) (hd : ∀ c ∈ ds, isD c = true) :
    (dcm (ntx neg ds) = false ∧ numOf neg ds = .error 2) ∨ (dcm (ntx neg ds) = true ∧ Lib.parseIntB 64 (ntx neg ds) = .range ∧ numOf neg ds = .error 1) ∨
    ∃ n : Int, dcm (ntx neg ds) = true ∧ Lib.parseIntB 64 (ntx neg ds) = .ok n ∧ numOf neg ds = .ok n ∧ -9223372036854775808 ≤ n ∧ n ≤ 9223372036854775807 := by
  unfold numOf ntx
  cases ds with
  | nil =>
    left
    cases neg
    · exact ⟨rfl, rfl⟩
    · exact ⟨rfl, rfl⟩
  | cons c r =>
    cases neg
    · have hp := pib_pos (c :: r) hd (by simp)
      simp only [Bool.false_eq_true, if_false]
      rw [hp, dcm_pos _ hd]
      by_cases h48 : c = 48
      · subst h48
        cases r with
        | nil =>
          right; right
          exact ⟨0, rfl, rfl, rfl, by decide, by decide⟩
        | cons d r =>
          left
          exact ⟨by simp [nz], by rw [if_pos]; simp⟩
      · have e1 : nz (c :: r) = true := by simpa [nz] using h48
        generalize dval (c :: r) = v
        simp only [e1, Bool.or_true, true_and]
        rw [if_neg (by simp [h48])]
        by_cases h2 : 9223372036854775807 < v
        · right; left
          rw [if_pos h2, if_pos h2]
          exact ⟨rfl, rfl⟩
        · right; right
          rw [if_neg h2, if_neg h2]
          exact ⟨_, rfl, rfl, by omega, by omega⟩
    · have hp := pib_neg (c :: r) hd (by simp)
      simp only [if_true]
      rw [hp, dcm_neg]
      generalize dval (c :: r) = v
      by_cases h48 : c = 48
      · subst h48
        left
        exact ⟨rfl, by rw [if_pos]; simp⟩
      · have e1 : nz (c :: r) = true := by simpa [nz] using h48
        simp only [e1, true_and]
        rw [if_neg (by simp [h48])]
        by_cases h2 : 9223372036854775808 < v
        · right; left
          rw [if_pos h2, if_pos h2]
          exact ⟨rfl, rfl⟩
        · right; right
          rw [if_neg h2, if_neg h2]
          exact ⟨_, rfl, rfl, by omega, by omega⟩
end Go.Proofs.YtcilkcnddgacgaaGreatDoor
/-
  Contracts of the developers' isDecimal and cutNumber. No conditions but Go's own bounds of a string's length, and what the library's tables hold.
-/
namespace Go.Proofs.YtcilkcnddgacgaaGreatDoor
open Go.RowKit
set_option maxRecDepth 100000 in
set_option maxHeartbeats 2000000 in
theorem isDecimal_any (x : List UInt8) (w : World) : Calls Tryz.prog 187 #[.string (bs x)] w (Is (.bool (dcm x)) w) := by
  have hn0 : (⟨#[]⟩ : ByteArray) = bs [] := rfl
  have hn1 : (⟨#[48]⟩ : ByteArray) = bs [48] := rfl
  have hn2 : (⟨#[45]⟩ : ByteArray) = bs [45] := rfl
  have cT := fun W => Tryz.strings_TrimPrefix (bs x) (bs [45]) W
  rw [bs_list, bs_list] at cT
  have e1 := str_beq x [48]
  unfold dcm
  generalize Lib.trimPrefix x [45] = t at *
  have e2 := str_beq t []
  obtain ⟨b, hb⟩ : ∃ b, (x == [48]) = b := ⟨_, rfl⟩
  rw [hb] at e1 ⊢
  clear hb
  have cT : ∀ W, Calls Tryz.prog 202 #[.string (bs x), .string (bs [45])] W (Is (.string (bs t)) W) := fun W => (cT W).mono (by rintro e w' ⟨rfl, rfl⟩; exact ⟨rfl, rfl⟩)
  cases t with
  | nil =>
    cases b
    all_goals
      go_enter Tryz.func187, Tryz.ntmps187
      go_wp2_with fail
      refine (cT _).mono ?_
      rintro e w' ⟨rfl, rfl⟩
      go_wp2_with fail
      go_ret
      exact ret_bool rfl
  | cons c r =>
    have hsz : (bs (c :: r)).size = r.length + 1 := rfl
    have h0 : 0 < (bs (c :: r)).size := by omega
    have hc : ((bs (c :: r))[0]'h0).toNat = c.toNat := rfl
    have hz : ((c.toNat : Int) != 48) = nz (c :: r) := by
      show (!((c.toNat : Int) == ((48 : UInt8).toNat : Int))) = (!(c == 48))
      rw [← beq_nat]
    have hz2 := Lib.hid hz
    clear hz
    cases b
    all_goals
      go_enter Tryz.func187, Tryz.ntmps187
      go_wp2_with fail
      refine (cT _).mono ?_
      rintro e w' ⟨rfl, rfl⟩
      go_wp2_with fail
      go_ret
      refine ret_bool ?_
      first | rfl | exact hz2.out
/-- A number's token by what follows it. -/
theorem tokAt_num {l : List UInt8} {j dj m : Nat} {neg : Bool} (h : j < l.length) (hL : isL (l[j]'h) = false) (hD : (isD (l[j]'h) || (l[j]'h) == 45) = true) (hneg : ((l[j]'h) == 45) = neg) (hdj : j + neg.toNat = dj) (hm : dj + ((l.drop dj).takeWhile isD).length = m) :
    dj ≤ l.length ∧ m ≤ l.length ∧ dj ≤ m ∧ j < m ∧ (l.take m).drop j = ntx neg ((l.drop dj).takeWhile isD) ∧
    tokAt l j = (match numOf neg ((l.drop dj).takeWhile isD) with | .error e => .error (if e = 1 then 4 else 2, 0) | .ok n => if jn l m then .error (2, m - j) else .ok (2, [], n, m - j)) := by
  have hlen : ((l.drop dj).takeWhile isD).length ≤ l.length - dj := tw_le isD l dj
  have hd := List.drop_eq_getElem_cons h
  have e1 : (if (l[j]'h) == 45 then l.drop (j + 1) else (l[j]'h) :: l.drop (j + 1)) = l.drop dj := by
    rw [hneg, ← hd, ← hdj]
    cases neg <;> rfl
  have hdl : dj ≤ l.length := by cases neg <;> simp at hdj <;> omega
  have hjm : j < m := by
    cases neg
    · have h0 : dj = j := by simpa using hdj.symm
      subst h0
      rw [hneg, Bool.or_false] at hD
      have := tw_at isD l dj h
      rw [if_pos hD] at this
      omega
    · simp at hdj; omega
  have hs : ((l.take m).drop j) = ntx neg ((l.drop dj).takeWhile isD) := by
    have hp := tw_prefix isD l dj
    rw [hm] at hp
    unfold ntx
    cases neg
    · have h0 : dj = j := by simpa using hdj.symm
      subst h0
      exact hp
    · have h0 : dj = j + 1 := by simpa using hdj.symm
      subst h0
      have hc : (l[j]'h) = 45 := by simpa using hneg
      have hlt : j < (l.take m).length := by rw [List.length_take]; omega
      rw [List.drop_eq_getElem_cons hlt, hp, List.getElem_take, hc]
      rfl
  refine ⟨hdl, by omega, by omega, hjm, hs, ?_⟩
  rw [tokAt_cons h]
  unfold tok
  rw [if_neg (by rw [hL]; decide), if_pos hD, e1, hneg, ← hd]
  have hmj : neg.toNat + ((l.drop dj).takeWhile isD).length = m - j := by omega
  have hq : ((l.drop j).drop (m - j)).head? = l[m]? := by rw [drop_head, show j + (m - j) = m by omega]
  rw [hmj, hq, jn_eq]
  rfl
theorem var_next {w w' : World} {P : Program} {n : String} {cs : Array Value} (h : w.var? P n = some cs) (hb : Below w.heap.size w w') : w'.var? P n = some cs := by
  unfold World.var? at h ⊢
  cases e : P.globalNamed n with
  | none => rw [e] at h; cases h
  | some g =>
    rw [e] at h
    simp only [Option.bind_some] at h ⊢
    cases e2 : w.heap[g]? with
    | none => rw [e2] at h; cases h
    | some o =>
      rw [hb.block g (Array.getElem?_eq_some_iff.1 e2).1, e2]
      rw [e2] at h
      exact h
/-- What the library's variables hold. -/
structure Env (w : World) : Prop where
  rng : ∃ tp p, w.var? Tryz.prog "strconv.ErrRange" = some #[.iface tp p]
  tab : Lib.TabIs Tryz.prog w "internal/strconv.uint64pow10" .u64 Lib.pow10Tab
theorem Env.next {w w' : World} (h : Env w) (hb : Below w.heap.size w w') : Env w' :=
  ⟨by obtain ⟨tp, p, e⟩ := h.rng; exact ⟨tp, p, var_next e hb⟩, var_next h.tab hb⟩
theorem parse_ok (x : List UInt8) (v : Int) (w : World) (hx : x.length ≤ 9223372036854775000) (h : Lib.parseIntB 64 x = .ok v) :
    Calls Tryz.prog 188 #[.string (bs x), .int .i64 10, .int .i64 64] w (Ib (.tuple #[.int .i64 v, .nilIface]) w) := by
  refine (Tryz.strconv_ParseInt_10_at64_ok (bs x) (by show x.length ≤ _; omega) v h w).mono ?_
  rintro e w' ⟨rfl, rfl | ⟨t, rfl⟩⟩
  · exact ⟨rfl, Below.refl _ _⟩
  · exact ⟨rfl, Lib.bytesWorld_below _ _ _⟩
theorem parse_range (x : List UInt8) (w : World) (hx : x.length ≤ 281474976710656) (h : Lib.parseIntB 64 x = .range) (hE : Env w) :
    Calls Tryz.prog 188 #[.string (bs x), .int .i64 10, .int .i64 64] w (fun e w' => ∃ (N : Nat), e = .returned (.tuple #[.int .i64 (Lib.intSat 64 x), .iface 251 (.pointer (some ⟨N, 0, none⟩))]) ∧ Below w.heap.size w w') := by
  obtain ⟨tp, p, hv⟩ := hE.rng
  refine (Tryz.strconv_ParseInt_10_at64_range_var (bs x) hx h tp p w hv).mono ?_
  rintro e w' ⟨N, rfl, -, -, hb⟩
  exact ⟨N, rfl, hb⟩
set_option maxRecDepth 100000 in
set_option maxHeartbeats 2000000 in
theorem cutNum_any (l : List UInt8) (j : Nat) (w : World) (hl : l.length ≤ 281474976710656) (h : j < l.length) (hL : isL (l[j]'h) = false) (hD : (isD (l[j]'h) || (l[j]'h) == 45) = true) (hE : Env w) :
    Calls Tryz.prog 177 #[.string (bs l), .int .i64 (j : Int)] w (CutP j (tokAt l j) w) := by
  have hsz : (bs l).size = l.length := rfl
  obtain ⟨neg, hneg⟩ : ∃ b, ((l[j]'h) == 45) = b := ⟨_, rfl⟩
  obtain ⟨dj, hdj⟩ : ∃ m, j + neg.toNat = m := ⟨_, rfl⟩
  obtain ⟨m, hm⟩ : ∃ m, dj + ((l.drop dj).takeWhile isD).length = m := ⟨_, rfl⟩
  obtain ⟨g1, g2, g3, g4, g5, g6⟩ := tokAt_num h hL hD hneg hdj hm
  have ext : (bs l).extract j m = bs (ntx neg ((l.drop dj).takeWhile isD)) := by rw [← g5]; exact bs_slice l j m
  have hall : ∀ c ∈ (l.drop dj).takeWhile isD, isD c = true := fun c hc => List.all_eq_true.1 List.all_takeWhile c hc
  have hnt := num_text neg _ hall
  have hxl : (ntx neg ((l.drop dj).takeWhile isD)).length ≤ l.length := by
    rw [← g5, List.length_drop, List.length_take]; omega
  have V0 := V4.new w (.int .i64 0) (.string ⟨#[]⟩) (.int .i64 0) (.int .i64 0) 180
  have hg1 := grown1 (w := w) (Obj.cells #[.int .i64 0, .string ⟨#[]⟩, .int .i64 0, .int .i64 0] 180)
  have hs1 : (w.alloc (Obj.cells #[.int .i64 0, .string ⟨#[]⟩, .int .i64 0, .int .i64 0] 180)).heap.size = w.heap.size + 1 := by simp
  have hK := Ks.of (w := w.alloc (Obj.cells #[.int .i64 0, .string ⟨#[]⟩, .int .i64 0, .int .i64 0] 180)) (ks := [3]) (t := 211)
  have hg2 := grown1 (w := w.alloc (Obj.cells #[.int .i64 0, .string ⟨#[]⟩, .int .i64 0, .int .i64 0] 180)) (Obj.cells #[.int .i64 3] 211)
  rw [hs1] at hK
  have V0 := V0.next hg2
  have hg := Below.next hg1 hg2
  have cP := past_any (w.heap.size + 1) 1 [3] l dj ((w.alloc (Obj.cells #[.int .i64 0, .string ⟨#[]⟩, .int .i64 0, .int .i64 0] 180)).alloc (Obj.cells #[.int .i64 3] 211)) (by omega) g1 (by decide) hK rfl
  rw [inK_digit, hm] at cP
  have cK := fun W => kindAt_any l j W
  have cD := fun W => isDecimal_any (ntx neg ((l.drop dj).takeWhile isD)) W
  have cJ := fun W => joined_any l m W
  have c1 := fun v W h => parse_ok (ntx neg ((l.drop dj).takeWhile isD)) v W (by omega) h
  have c2 := fun W h => parse_range (ntx neg ((l.drop dj).takeWhile isD)) W (by omega) h
  obtain ⟨d, hd⟩ : ∃ d, m - j = d := ⟨_, rfl⟩
  have hjd : j + d = m := by omega
  rw [hd] at g6
  obtain ⟨b, hb⟩ : ∃ b, jn l m = b := ⟨_, rfl⟩
  rw [hb] at g6 cJ
  have hk5 : (kat l j = 5 ∧ neg = true) ∨ (kat l j ≠ 5 ∧ neg = false) := by
    rw [kat_lt h]
    have := (kd_facts (l[j]'h)).2.2.2.1
    cases neg
    · exact .inr ⟨fun e => (by rw [this.1 e] at hneg; cases hneg), rfl⟩
    · exact .inl ⟨this.2 (by simpa using hneg), rfl⟩
  have G : (dcm (ntx neg ((l.drop dj).takeWhile isD)) = false ∧ tokAt l j = .error (2, 0)) ∨ (dcm (ntx neg ((l.drop dj).takeWhile isD)) = true ∧ Lib.parseIntB 64 (ntx neg ((l.drop dj).takeWhile isD)) = .range ∧ tokAt l j = .error (4, 0)) ∨
      ∃ n : Int, dcm (ntx neg ((l.drop dj).takeWhile isD)) = true ∧ Lib.parseIntB 64 (ntx neg ((l.drop dj).takeWhile isD)) = .ok n ∧ ((b = true ∧ tokAt l j = .error (2, d)) ∨ (b = false ∧ tokAt l j = .ok (2, [], n, d))) := by
    rcases hnt with ⟨a1, a2⟩ | ⟨a1, a2, a3⟩ | ⟨n, a1, a2, a3, -, -⟩
    · rw [a2] at g6; exact .inl ⟨a1, g6⟩
    · rw [a3] at g6; exact .inr (.inl ⟨a1, a2, g6⟩)
    · rw [a3] at g6
      refine .inr (.inr ⟨n, a1, a2, ?_⟩)
      cases b
      · exact .inr ⟨rfl, g6⟩
      · exact .inl ⟨rfl, g6⟩
  generalize ntx neg ((l.drop dj).takeWhile isD) = X at *
  generalize tokAt l j = R at *
  generalize dcm X = dx at *
  clear g6 hnt
  have hdj2 : (neg = true → (j : Int) + 1 = (dj : Int)) ∧ (neg = false → j = dj) := by
    constructor
    · intro e; subst e; rw [← hdj]; rfl
    · intro e; subst e; rw [← hdj]; rfl
  clear hb hm hL hD hneg hall g5 hg1 hg2 hs1 hdj
  have V1 := fun q => V0.next (below_drewN (Below.refl _ _) q)
  have hgq := fun q => below_drewN hg q
  clear V0 hK hg
  generalize kat l j = k at *
  obtain ⟨b5, hb5, hdj3⟩ : ∃ b5, ((k : Int) == 5) = b5 ∧ ((b5 = true ∧ (j : Int) + 1 = (dj : Int)) ∨ (b5 = false ∧ j = dj)) := by
    rcases hk5 with ⟨rfl, e⟩ | ⟨e1, e⟩
    · exact ⟨true, rfl, .inl ⟨rfl, hdj2.1 e⟩⟩
    · exact ⟨false, by simp; omega, .inr ⟨rfl, hdj2.2 e⟩⟩
  clear hk5 hdj2 h
  have hE1 := fun q => hE.next (hgq q)
  rcases hdj3 with ⟨rfl, l11⟩ | ⟨rfl, rfl⟩
  all_goals
    rcases G with ⟨rfl, rfl⟩ | ⟨rfl, hp, rfl⟩ | ⟨n, rfl, hp, ⟨rfl, rfl⟩ | ⟨rfl, rfl⟩⟩
    all_goals
      go_enter Tryz.func177, Tryz.ntmps177
      go_wp2_with fail
      refine (cK _).mono ?_
      rintro e w' ⟨rfl, rfl⟩
      go_wp2_with fail
      refine cP.mono ?_
      rintro e w' ⟨q, rfl, rfl⟩
      have v := V1 q
      have hg := hgq q
      have hE2 := hE1 q
      generalize ((w.alloc (Obj.cells #[.int .i64 0, .string ⟨#[]⟩, .int .i64 0, .int .i64 0] 180)).alloc (Obj.cells #[.int .i64 3] 211)).drewN q = w2 at *
      clear hgq V1 hE1 cP
      go_wp2_with fail
      refine (cD _).mono ?_
      rintro e w' ⟨rfl, rfl⟩
      clear cK cD
    · obtain ⟨v0, v1, v2, v3, v4, v5, v6, v7, v8⟩ := v
      go_wp2_with fail
      refine bodyPost_ret (v := .tuple #[.agg #[.int .i64 0, .string ⟨#[]⟩, .int .i64 0, .int .i64 0], .int .i64 2, .int .i64 (j : Int)]) (by simp [results, Tryz.results177, go_sem, v1, v2, v3, v4]) rfl ⟨rfl, ?_⟩
      exact (((hg.setCell (by simp) _).setCell (by simp) _).setCell (by simp) _).setCell (by simp) _
    · go_wp2_with fail
      refine (c2 _ hp hE2).mono ?_
      rintro e w3 ⟨N, rfl, hb3⟩
      have hg := Below.next hg hb3
      obtain ⟨v0, v1, v2, v3, v4, v5, v6, v7, v8⟩ := v.next hb3
      clear hb3 hE2
      go_wp2_with fail
      refine bodyPost_ret (v := .tuple #[.agg #[.int .i64 0, .string ⟨#[]⟩, .int .i64 0, .int .i64 0], .int .i64 4, .int .i64 (j : Int)]) (by simp [results, Tryz.results177, go_sem, v1, v2, v3, v4]) rfl ⟨rfl, ?_⟩
      exact (((hg.setCell (by simp) _).setCell (by simp) _).setCell (by simp) _).setCell (by simp) _
    · go_wp2_with fail
      refine (c1 _ _ hp).mono ?_
      rintro e w3 ⟨rfl, hb3⟩
      have hg := Below.next hg hb3
      obtain ⟨v0, v1, v2, v3, v4, v5, v6, v7, v8⟩ := v.next hb3
      clear hb3 hE2
      go_wp2_with fail
      refine (cJ _).mono ?_
      rintro e w' ⟨rfl, rfl⟩
      go_wp2_with fail
      refine bodyPost_ret (v := .tuple #[.agg #[.int .i64 0, .string ⟨#[]⟩, .int .i64 0, .int .i64 0], .int .i64 2, .int .i64 (m : Int)]) (by simp [results, Tryz.results177, go_sem, v1, v2, v3, v4]) rfl ⟨by rw [← hjd]; rfl, ?_⟩
      exact (((hg.setCell (by simp) _).setCell (by simp) _).setCell (by simp) _).setCell (by simp) _
    · go_wp2_with fail
      refine (c1 _ _ hp).mono ?_
      rintro e w3 ⟨rfl, hb3⟩
      have hg := Below.next hg hb3
      obtain ⟨v0, v1, v2, v3, v4, v5, v6, v7, v8⟩ := v.next hb3
      clear hb3 hE2
      go_wp2_with fail
      refine (cJ _).mono ?_
      rintro e w' ⟨rfl, rfl⟩
      go_wp2_with fail
      refine bodyPost_ret (v := .tuple #[.agg #[.int .i64 2, .string ⟨#[]⟩, .int .i64 n, .int .i64 (j : Int)], .int .i64 0, .int .i64 (m : Int)]) (by simp [results, Tryz.results177, go_sem, v1, v2, v3, v4]) rfl ⟨by rw [← hjd]; rfl, ?_⟩
      exact (((hg.setCell (by simp) _).setCell (by simp) _).setCell (by simp) _).setCell (by simp) _
end Go.Proofs.YtcilkcnddgacgaaGreatDoor
/-
  Contracts of the developers' isQuoted, cutContent and cutString. No conditions but Go's own bounds of a string's length.
-/
namespace Go.Proofs.YtcilkcnddgacgaaGreatDoor
open Go.RowKit
/-- Does a backslash quote what stands there? -/
def isq (l : List UInt8) (a : Nat) : Bool := l[a]?.any (fun d => d == 34 || d == 92)
set_option maxRecDepth 100000 in
set_option maxHeartbeats 2000000 in
theorem isQuoted_any (l : List UInt8) (a : Nat) (w : World) : Calls Tryz.prog 205 #[.string (bs l), .int .i64 (a : Int)] w (Is (.bool (isq l a)) w) := by
  have hsz : (bs l).size = l.length := rfl
  unfold isq
  by_cases h : a < l.length
  · have h2 : a < (bs l).size := h
    rw [List.getElem?_eq_getElem h, Option.any_some, beq_nat, beq_nat]
    have hb : ((bs l)[a]'h2).toNat = (l[a]'h).toNat := rfl
    have hn := UInt8.toNat_lt (l[a]'h)
    generalize (l[a]'h).toNat = n at *
    have e34 : (34 : UInt8).toNat = 34 := rfl
    have e92 : (92 : UInt8).toNat = 92 := rfl
    rw [e34, e92]
    by_cases h34 : n = 34
    · subst h34
      go_enter Tryz.func205, Tryz.ntmps205
      go_wp2_with fail
      go_ret
      exact ret_bool rfl
    · have d1 : ((n : Int) == 34) = false := by simp; omega
      go_enter Tryz.func205, Tryz.ntmps205
      go_wp2_with fail
      go_ret
      refine ret_bool ?_
      show ((n : Int) == 92) = (((n : Int) == 34) || ((n : Int) == 92))
      rw [d1, Bool.false_or]
  · rw [List.getElem?_eq_none (by omega)]
    go_enter Tryz.func205, Tryz.ntmps205
    go_wp2_with fail
    go_ret
    exact ret_bool rfl
theorem Ow.str2 {B : Nat} {w : World} {v : Value} {l : List UInt8} (h : Ow B w v l) :
    (convert 238 9 v).run Tryz.prog w = .ok (.string (bs l)) w := by
  by_cases h0 : l = []
  · subst h0
    rcases h.2 with ⟨rfl, _⟩ | ⟨g, cap, cur, hv, -⟩
    · refine (run_convert_bytes_string w 238 9 5 none 0 0 Tryz.underlying238 Tryz.underlying5 Tryz.underlying9).trans ?_
      rfl
    · subst hv
      exact run_convert_bytes_back w 238 9 5 ⟨g, 0, none⟩ cap [] Tryz.underlying238 Tryz.underlying5 Tryz.underlying9 fun j hj => absurd hj (by simp)
  · exact h.str h0
/-- What cutContent returns: a: the place behind the opening quotation mark, less one. -/
def conV (a : Nat) : Except Nat (List UInt8 × Nat) → Value
  | .error i => .tuple #[.string ⟨#[]⟩, .int .i64 2, .int .i64 ((a + i : Nat) : Int)]
  | .ok (t, k) => .tuple #[.string (bs t), .int .i64 0, .int .i64 ((a + k : Nat) : Int)]
theorem conV_err (a i j : Nat) (h : a + i = j) : conV a (.error i) = .tuple #[.string ⟨#[]⟩, .int .i64 2, .int .i64 (j : Int)] := by subst h; rfl
theorem conV_ok (a : Nat) (t : List UInt8) (k j : Nat) (h : a + k = j) : conV a (.ok (t, k)) = .tuple #[.string (bs t), .int .i64 0, .int .i64 (j : Int)] := by subst h; rfl
set_option maxRecDepth 100000 in
set_option maxHeartbeats 2000000 in
theorem content_any (l : List UInt8) (a : Nat) (w : World) (hl : l.length ≤ 140737488355328) (ha : a < l.length) :
    Calls Tryz.prog 189 #[.string (bs l), .int .i64 ((a + 1 : Nat) : Int)] w (Ib (conV a (qs (l.drop (a + 1)) 1 [])) w) := by
  have hsz : (bs l).size = l.length := rfl
  obtain ⟨R, hR⟩ : ∃ R, qs (l.drop (a + 1)) 1 [] = R := ⟨_, rfl⟩
  rw [hR]
  have HI := Lib.hid hR
  obtain ⟨s, hs⟩ : ∃ s, a + 1 = s := ⟨_, rfl⟩
  rw [hs] at HI ⊢
  clear hR
  go_enter Tryz.func189, Tryz.ntmps189
  go_wp2_with fail
  go_loopw [1, 7] (fun i v wr => ∃ (j : Nat) (o : List UInt8), j ≤ l.length ∧ a < j ∧ o.length ≤ j ∧ i = .int .i64 (j : Int) ∧ Ow w.heap.size wr v o ∧ Below w.heap.size w wr ∧ Hid (qs (l.drop j) (j - a) o = R)) (fun i _ _ => l.length - (intOf i).toNat)
  case atStart => exact ⟨s, [], by omega, by omega, by simp, rfl, Ow.nil _ _, Below.refl _ _, by rw [show s - a = 1 by omega]; exact HI⟩
  case round =>
    obtain ⟨j, o, hj, haj, hol, rfl, ho, hb, hI⟩ := hrel
    have hst := ho.str2
    have hB2 : ∀ o : Obj, w.heap.size ≤ (wr.alloc o).heap.size := fun o => Nat.le_trans hb.size (one _ _).size
    by_cases hlt : j < l.length
    · have hlt2 : j < (bs l).size := hlt
      obtain ⟨c, hc⟩ : ∃ c, l[j]'hlt = c := ⟨_, rfl⟩
      have hI2 := hI.out
      rw [List.drop_eq_getElem_cons hlt, qs_cons, hc] at hI2
      have hcb : ((bs l)[j]'hlt2).toNat = c.toNat := by rw [← hc]; rfl
      obtain ⟨n, hn⟩ : ∃ n, c.toNat = n := ⟨_, rfl⟩
      have hn256 : n < 256 := by rw [← hn]; exact UInt8.toNat_lt c
      rw [hn] at hcb hI2
      have hw : wrap32 (n : Int) = (n : Int) := by unfold wrap32; omega
      have g : ∀ d : UInt8, c ≠ d → ((n : Int) == (d.toNat : Int)) = false := fun d h => by rw [← hn, ← beq_nat]; simpa using h
      obtain ⟨f, hf⟩ : ∃ f, j + 1 = f := ⟨_, rfl⟩
      have l11 : (j : Int) + 1 = (f : Int) := by omega
      have hfl : f ≤ l.length := by omega
      rw [hf] at hI2
      clear hI HI
      by_cases h34 : c = 34
      · rw [if_pos h34] at hI2
        have hn2 : n = 34 := by rw [← hn, h34]; rfl
        subst hn2
        subst hI2
        have e1 : a + (j - a + 1) = f := by omega
        clear g hn hc h34
        go_wp2_with fail
        go_ret3
        exact ⟨congrArg Ending.returned (conV_ok _ _ _ _ e1).symm, hb⟩
      · rw [if_neg h34] at hI2
        have g34 : ((n : Int) == 34) = false := g 34 h34
        by_cases hr : n < 32 ∨ 126 < n
        · rw [if_pos hr] at hI2
          subst hI2
          have e1 : a + (j - a) = j := by omega
          have hr2 : decide ((n : Int) < 32) = true ∨ (decide ((n : Int) < 32) = false ∧ decide ((126 : Int) < (n : Int)) = true) := by
            by_cases h : n < 32
            · left; simp; omega
            · right; exact ⟨by simp; omega, by simp; omega⟩
          clear g hn hc h34 hr
          rcases hr2 with d1 | ⟨d1, d2⟩
          all_goals
            go_wp2_with fail
            go_ret3
            exact ⟨congrArg Ending.returned (conV_err _ _ _ e1).symm, hb⟩
        · rw [if_neg hr] at hI2
          have d1 : decide ((n : Int) < 32) = false := by simp; omega
          have d2 : decide ((126 : Int) < (n : Int)) = false := by simp; omega
          by_cases h92 : c = 92
          · rw [if_pos h92] at hI2
            have hn2 : n = 92 := by rw [← hn, h92]; rfl
            subst hn2
            have cQ := fun W => isQuoted_any l f W
            clear d1 d2 g34 hr g hn hc h34 h92
            have X : (isq l f = false ∧ R = .error (j - a)) ∨ ∃ (h : f < l.length), isq l f = true ∧ qs (l.drop (f + 1)) (j - a + 2) (o ++ [l[f]'h]) = R := by
              by_cases hf2 : f < l.length
              · rw [List.drop_eq_getElem_cons hf2] at hI2
                simp only at hI2
                unfold isq
                rw [List.getElem?_eq_getElem hf2, Option.any_some]
                by_cases hd : (l[f]'hf2) = 34 ∨ (l[f]'hf2) = 92
                · rw [if_pos hd] at hI2
                  exact .inr ⟨hf2, by simpa using hd, hI2⟩
                · rw [if_neg hd] at hI2
                  exact .inl ⟨by simpa using hd, hI2.symm⟩
              · have e : f = l.length := by omega
                subst e
                rw [List.drop_length] at hI2
                simp only at hI2
                unfold isq
                rw [List.getElem?_eq_none (Nat.le_refl _)]
                exact .inl ⟨rfl, hI2.symm⟩
            rcases X with ⟨X1, rfl⟩ | ⟨hf2, X1, X2⟩
            · rw [X1] at cQ
              have e1 : a + (j - a) = j := by omega
              clear hI2 X1
              go_wp2_with fail
              refine (cQ _).mono ?_
              rintro e w' ⟨rfl, rfl⟩
              go_wp2_with fail
              go_ret3
              exact ⟨congrArg Ending.returned (conV_err _ _ _ e1).symm, hb⟩
            · rw [X1] at cQ
              have hf3 : f < (bs l).size := hf2
              obtain ⟨d, hd⟩ : ∃ d, l[f]'hf2 = d := ⟨_, rfl⟩
              rw [hd] at X2
              have hb2 : ((bs l)[f]'hf3).toNat = d.toNat := by rw [← hd]; rfl
              obtain ⟨e, he⟩ : ∃ e, f + 1 = e := ⟨_, rfl⟩
              have l12 : (f : Int) + 1 = (e : Int) := by omega
              have hel : e ≤ l.length := by omega
              rw [he] at X2
              have E := Lib.hid (show qs (l.drop e) (e - a) (o ++ [d]) = R by rw [← X2, show j - a + 2 = e - a by omega])
              have hol2 : o.length + 1 ≤ 140737488355328 := by omega
              clear hI2 X1 X2 hd he hst
              go_wp2_with fail
              refine (cQ _).mono ?_
              rintro e1 w' ⟨rfl, rfl⟩
              go_wp2_with (at_builtin; refine wpList_push rfl (.tmp 46) (.tmp 50) rfl w.heap.size u7 o d _ 1 rfl rfl (ho.other (one _ _)) (by simp) hol2 (hB2 _) ?_; intro v' w3 ho' hg')
              go_roundw
              case rel => exact ⟨e, o ++ [d], hel, by omega, by simp; omega, rfl, ho', (Below.next hb (one _ _)).grown hg' (hB2 _) (fun q hq => (ho.lt q hq).1), E⟩
              case measure => simp [intOf]; omega
          · rw [if_neg h92] at hI2
            have g92 : ((n : Int) == 92) = false := g 92 h92
            have E := Lib.hid (show qs (l.drop f) (f - a) (o ++ [c]) = R by rw [← hI2, show j - a + 1 = f - a by omega])
            have hol2 : o.length + 1 ≤ 140737488355328 := by omega
            clear hI2 g hc h34 hr h92 hst
            go_wp2_with (at_builtin; refine wpList_push rfl (.tmp 46) (.tmp 50) rfl w.heap.size u7 o c _ 1 rfl rfl (ho.other (one _ _)) (by simp [hn]) hol2 (hB2 _) ?_; intro v' w3 ho' hg')
            go_roundw
            case rel => exact ⟨f, o ++ [c], hfl, by omega, by simp; omega, rfl, ho', (Below.next hb (one _ _)).grown hg' (hB2 _) (fun q hq => (ho.lt q hq).1), E⟩
            case measure => simp [intOf]; omega
    · obtain rfl : j = l.length := by omega
      have hI2 := hI.out
      rw [List.drop_length, qs_nil] at hI2
      subst hI2
      have e1 : a + (l.length - a) = l.length := by omega
      clear hI HI
      go_wp2_with fail
      go_ret3
      exact ⟨congrArg Ending.returned (conV_err _ _ _ e1).symm, hb⟩
end Go.Proofs.YtcilkcnddgacgaaGreatDoor
/-
  Contracts of the developers' cutString and cut. No conditions but Go's own bounds of a string's length, and what the library's variables hold.
-/
namespace Go.Proofs.YtcilkcnddgacgaaGreatDoor
open Go.RowKit
theorem tok_quo (r : List UInt8) : tok 34 r = (match qs r 1 [] with | .error i => .error (2, i) | .ok (t, k) => if 200 < t.length then .error (3, 0) else .ok (3, t, 0, k)) := by
  unfold tok
  rfl
set_option maxRecDepth 100000 in
set_option maxHeartbeats 2000000 in
theorem cutString_any (l : List UInt8) (j : Nat) (w : World) (hl : l.length ≤ 140737488355328) (h : j < l.length) (hc : l[j]'h = 34) :
    Calls Tryz.prog 178 #[.string (bs l), .int .i64 (j : Int)] w (CutP j (tokAt l j) w) := by
  have hsz : (bs l).size = l.length := rfl
  have hT := tokAt_cons h
  rw [hc, tok_quo] at hT
  have cC := fun W => content_any l j W hl h
  obtain ⟨f, hf⟩ : ∃ f, j + 1 = f := ⟨_, rfl⟩
  have l11 : (j : Int) + 1 = (f : Int) := by omega
  have hfl : f ≤ l.length := by omega
  rw [hf] at cC hT
  have V0 := V4.new w (.int .i64 0) (.string ⟨#[]⟩) (.int .i64 0) (.int .i64 0) 180
  have hg1 := grown1 (w := w) (Obj.cells #[.int .i64 0, .string ⟨#[]⟩, .int .i64 0, .int .i64 0] 180)
  generalize qs (l.drop f) 1 [] = R at *
  rcases R with i | ⟨t, k⟩
  · have cC : ∀ W, Calls Tryz.prog 189 #[.string (bs l), .int .i64 (f : Int)] W (Ib (.tuple #[.string ⟨#[]⟩, .int .i64 2, .int .i64 ((j + i : Nat) : Int)]) W) := cC
    replace hT : tokAt l j = .error (2, i) := hT
    rw [hT]
    generalize hx : j + i = x at *
    go_enter Tryz.func178, Tryz.ntmps178
    go_wp2_with fail
    refine (cC _).mono ?_
    rintro e w2 ⟨rfl, hb⟩
    have hg := Below.next hg1 hb
    obtain ⟨v0, v1, v2, v3, v4, v5, v6, v7, v8⟩ := V0.next hb
    clear hg1 hb V0 cC
    go_wp2_with fail
    refine bodyPost_ret (v := .tuple #[.agg #[.int .i64 0, .string ⟨#[]⟩, .int .i64 0, .int .i64 0], .int .i64 2, .int .i64 (x : Int)]) (by simp [results, Tryz.results178, go_sem, v1, v2, v3, v4]) rfl ⟨by rw [← hx]; rfl, ?_⟩
    exact (((hg.setCell (by simp) _).setCell (by simp) _).setCell (by simp) _).setCell (by simp) _
  · have cC : ∀ W, Calls Tryz.prog 189 #[.string (bs l), .int .i64 (f : Int)] W (Ib (.tuple #[.string (bs t), .int .i64 0, .int .i64 ((j + k : Nat) : Int)]) W) := cC
    replace hT : tokAt l j = if 200 < t.length then .error (3, 0) else .ok (3, t, 0, k) := hT
    generalize hx : j + k = x at *
    have htz : (bs t).size = t.length := rfl
    by_cases h200 : 200 < t.length
    · rw [if_pos h200] at hT
      rw [hT]
      have d1 : decide ((200 : Int) < (t.length : Int)) = true := by simp; omega
      go_enter Tryz.func178, Tryz.ntmps178
      go_wp2_with fail
      refine (cC _).mono ?_
      rintro e w2 ⟨rfl, hb⟩
      have hg := Below.next hg1 hb
      obtain ⟨v0, v1, v2, v3, v4, v5, v6, v7, v8⟩ := V0.next hb
      clear hg1 hb V0 cC
      go_wp2_with fail
      refine bodyPost_ret (v := .tuple #[.agg #[.int .i64 0, .string ⟨#[]⟩, .int .i64 0, .int .i64 0], .int .i64 3, .int .i64 (j : Int)]) (by simp [results, Tryz.results178, go_sem, v1, v2, v3, v4]) rfl ⟨rfl, ?_⟩
      exact (((hg.setCell (by simp) _).setCell (by simp) _).setCell (by simp) _).setCell (by simp) _
    · rw [if_neg h200] at hT
      rw [hT]
      have d1 : decide ((200 : Int) < (t.length : Int)) = false := by simp; omega
      go_enter Tryz.func178, Tryz.ntmps178
      go_wp2_with fail
      refine (cC _).mono ?_
      rintro e w2 ⟨rfl, hb⟩
      have hg := Below.next hg1 hb
      obtain ⟨v0, v1, v2, v3, v4, v5, v6, v7, v8⟩ := V0.next hb
      clear hg1 hb V0 cC
      go_wp2_with fail
      refine bodyPost_ret (v := .tuple #[.agg #[.int .i64 3, .string (bs t), .int .i64 0, .int .i64 (j : Int)], .int .i64 0, .int .i64 (x : Int)]) (by simp [results, Tryz.results178, go_sem, v1, v2, v3, v4]) rfl ⟨by rw [← hx]; rfl, ?_⟩
      exact (((hg.setCell (by simp) _).setCell (by simp) _).setCell (by simp) _).setCell (by simp) _
theorem cutV_form (j : Nat) (R : Except (Nat × Nat) (Nat × List UInt8 × Int × Nat)) : ∃ (K : Int) (S : ByteArray) (N P E X : Int), cutV j R = .tuple #[.agg #[.int .i64 K, .string S, .int .i64 N, .int .i64 P], .int .i64 E, .int .i64 X] := by
  rcases R with ⟨e, o⟩ | ⟨kd, t, n, k⟩
  · exact ⟨_, _, _, _, _, _, rfl⟩
  · exact ⟨_, _, _, _, _, _, rfl⟩
theorem tokAt_end (l : List UInt8) : tokAt l l.length = .error (2, 0) := by
  unfold tokAt
  rw [List.drop_length]
set_option maxRecDepth 100000 in
set_option maxHeartbeats 4000000 in
theorem cut_any (l : List UInt8) (j : Nat) (w : World) (hl : l.length ≤ 140737488355328) (hj : j ≤ l.length) (hE : Env w) :
    Calls Tryz.prog 166 #[.string (bs l), .int .i64 (j : Int)] w (CutP j (tokAt l j) w) := by
  have hsz : (bs l).size = l.length := rfl
  have cK := fun W => kindAt_any l j W
  have V0 := V4.new w (.int .i64 0) (.string ⟨#[]⟩) (.int .i64 0) (.int .i64 0) 180
  have hg1 := grown1 (w := w) (Obj.cells #[.int .i64 0, .string ⟨#[]⟩, .int .i64 0, .int .i64 0] 180)
  have hE1 := hE.next hg1
  have X : (kat l j = 2 ∧ ∀ W, Calls Tryz.prog 176 #[.string (bs l), .int .i64 (j : Int)] W (CutP j (tokAt l j) W)) ∨
      ((kat l j = 3 ∨ kat l j = 5) ∧ ∀ W, Env W → Calls Tryz.prog 177 #[.string (bs l), .int .i64 (j : Int)] W (CutP j (tokAt l j) W)) ∨
      (kat l j = 6 ∧ ∀ W, Calls Tryz.prog 178 #[.string (bs l), .int .i64 (j : Int)] W (CutP j (tokAt l j) W)) ∨
      (kat l j = 8 ∧ j < l.length ∧ tokAt l j = .ok (4, (l.take (j + 1)).drop j, 0, 1)) ∨
      (kat l j ≠ 2 ∧ kat l j ≠ 3 ∧ kat l j ≠ 5 ∧ kat l j ≠ 6 ∧ kat l j ≠ 8 ∧ tokAt l j = .error (2, 0)) := by
    by_cases h : j < l.length
    · obtain ⟨f2, f3, -, f5, f6, -, f8, -⟩ := kd_facts (l[j]'h)
      rw [kat_lt h]
      by_cases k2 : kd (l[j]'h).toNat = 2
      · exact .inl ⟨k2, fun W => cutName_any l j W (by omega) h (f2.1 k2)⟩
      have nL : isL (l[j]'h) = false := by
        cases e : isL (l[j]'h)
        · rfl
        · exact absurd (f2.2 e) k2
      by_cases k3 : kd (l[j]'h).toNat = 3
      · exact .inr (.inl ⟨.inl k3, fun W hW => cutNum_any l j W (by omega) h nL (by rw [f3.1 k3]; rfl) hW⟩)
      by_cases k5 : kd (l[j]'h).toNat = 5
      · exact .inr (.inl ⟨.inr k5, fun W hW => cutNum_any l j W (by omega) h nL (by rw [f5.1 k5]; rfl) hW⟩)
      by_cases k6 : kd (l[j]'h).toNat = 6
      · exact .inr (.inr (.inl ⟨k6, fun W => cutString_any l j W hl h (f6.1 k6)⟩))
      by_cases k8 : kd (l[j]'h).toNat = 8
      · refine .inr (.inr (.inr (.inl ⟨k8, h, ?_⟩)))
        have hlt : j < (l.take (j + 1)).length := by rw [List.length_take]; omega
        have e : (l.take (j + 1)).drop j = [l[j]'h] := by
          rw [List.drop_eq_getElem_cons hlt, List.getElem_take, List.drop_eq_nil_of_le (by rw [List.length_take]; omega)]
        rw [tokAt_cons h, mark_tok _ (f8.1 k8), e]
      · refine .inr (.inr (.inr (.inr ⟨k2, k3, k5, k6, k8, ?_⟩)))
        rw [tokAt_cons h]
        refine no_tok _ nL ?_ (fun e => k6 (f6.2 e)) ?_
        · cases e : isD (l[j]'h)
          · cases e2 : (l[j]'h) == 45
            · rfl
            · exact absurd (f5.2 (by simpa using e2)) k5
          · exact absurd (f3.2 e) k3
        · cases e : isM (l[j]'h)
          · rfl
          · exact absurd (f8.2 e) k8
    · obtain rfl : j = l.length := by omega
      rw [kat_end (Nat.le_refl _), tokAt_end]
      exact .inr (.inr (.inr (.inr ⟨by decide, by decide, by decide, by decide, by decide, rfl⟩)))
  rcases X with ⟨hk, c1⟩ | ⟨hk, c1⟩ | ⟨hk, c1⟩ | ⟨hk, h, hT⟩ | ⟨k2, k3, k5, k6, k8, hT⟩
  · rw [hk] at cK
    replace cK : ∀ W, Calls Tryz.prog 175 #[.string (bs l), .int .i64 (j : Int)] W (Is (.int .i64 2) W) := cK
    obtain ⟨K, S, N, P, E, X, hv⟩ := cutV_form j (tokAt l j)
    generalize tokAt l j = R at *
    go_enter Tryz.func166, Tryz.ntmps166
    go_wp2_with fail
    refine (cK _).mono ?_
    rintro e w' ⟨rfl, rfl⟩
    go_wp2_with fail
    refine (c1 _).mono ?_
    rintro e w2 ⟨he, hb⟩
    rw [hv] at he
    subst he
    have hg := Below.next hg1 hb
    obtain ⟨v0, v1, v2, v3, v4, v5, v6, v7, v8⟩ := V0.next hb
    clear hg1 hb V0 c1
    go_wp2_with fail
    refine bodyPost_ret (v := .tuple #[.agg #[.int .i64 K, .string S, .int .i64 N, .int .i64 P], .int .i64 E, .int .i64 X]) (by simp [results, Tryz.results166, go_sem, v1, v2, v3, v4]) rfl ⟨by rw [hv], ?_⟩
    exact (((hg.setCell (by simp) _).setCell (by simp) _).setCell (by simp) _).setCell (by simp) _
  · rcases hk with hk | hk
    all_goals rw [hk] at cK
    · replace cK : ∀ W, Calls Tryz.prog 175 #[.string (bs l), .int .i64 (j : Int)] W (Is (.int .i64 3) W) := cK
      obtain ⟨K, S, N, P, E, X, hv⟩ := cutV_form j (tokAt l j)
      generalize tokAt l j = R at *
      go_enter Tryz.func166, Tryz.ntmps166
      go_wp2_with fail
      refine (cK _).mono ?_
      rintro e w' ⟨rfl, rfl⟩
      go_wp2_with fail
      refine (c1 _ hE1).mono ?_
      rintro e w2 ⟨he, hb⟩
      rw [hv] at he
      subst he
      have hg := Below.next hg1 hb
      obtain ⟨v0, v1, v2, v3, v4, v5, v6, v7, v8⟩ := V0.next hb
      clear hg1 hb V0 c1
      go_wp2_with fail
      refine bodyPost_ret (v := .tuple #[.agg #[.int .i64 K, .string S, .int .i64 N, .int .i64 P], .int .i64 E, .int .i64 X]) (by simp [results, Tryz.results166, go_sem, v1, v2, v3, v4]) rfl ⟨by rw [hv], ?_⟩
      exact (((hg.setCell (by simp) _).setCell (by simp) _).setCell (by simp) _).setCell (by simp) _
    · replace cK : ∀ W, Calls Tryz.prog 175 #[.string (bs l), .int .i64 (j : Int)] W (Is (.int .i64 5) W) := cK
      obtain ⟨K, S, N, P, E, X, hv⟩ := cutV_form j (tokAt l j)
      generalize tokAt l j = R at *
      go_enter Tryz.func166, Tryz.ntmps166
      go_wp2_with fail
      refine (cK _).mono ?_
      rintro e w' ⟨rfl, rfl⟩
      go_wp2_with fail
      refine (c1 _ hE1).mono ?_
      rintro e w2 ⟨he, hb⟩
      rw [hv] at he
      subst he
      have hg := Below.next hg1 hb
      obtain ⟨v0, v1, v2, v3, v4, v5, v6, v7, v8⟩ := V0.next hb
      clear hg1 hb V0 c1
      go_wp2_with fail
      refine bodyPost_ret (v := .tuple #[.agg #[.int .i64 K, .string S, .int .i64 N, .int .i64 P], .int .i64 E, .int .i64 X]) (by simp [results, Tryz.results166, go_sem, v1, v2, v3, v4]) rfl ⟨by rw [hv], ?_⟩
      exact (((hg.setCell (by simp) _).setCell (by simp) _).setCell (by simp) _).setCell (by simp) _
  · rw [hk] at cK
    replace cK : ∀ W, Calls Tryz.prog 175 #[.string (bs l), .int .i64 (j : Int)] W (Is (.int .i64 6) W) := cK
    obtain ⟨K, S, N, P, E, X, hv⟩ := cutV_form j (tokAt l j)
    generalize tokAt l j = R at *
    go_enter Tryz.func166, Tryz.ntmps166
    go_wp2_with fail
    refine (cK _).mono ?_
    rintro e w' ⟨rfl, rfl⟩
    go_wp2_with fail
    refine (c1 _).mono ?_
    rintro e w2 ⟨he, hb⟩
    rw [hv] at he
    subst he
    have hg := Below.next hg1 hb
    obtain ⟨v0, v1, v2, v3, v4, v5, v6, v7, v8⟩ := V0.next hb
    clear hg1 hb V0 c1
    go_wp2_with fail
    refine bodyPost_ret (v := .tuple #[.agg #[.int .i64 K, .string S, .int .i64 N, .int .i64 P], .int .i64 E, .int .i64 X]) (by simp [results, Tryz.results166, go_sem, v1, v2, v3, v4]) rfl ⟨by rw [hv], ?_⟩
    exact (((hg.setCell (by simp) _).setCell (by simp) _).setCell (by simp) _).setCell (by simp) _
  · rw [hk] at cK
    replace cK : ∀ W, Calls Tryz.prog 175 #[.string (bs l), .int .i64 (j : Int)] W (Is (.int .i64 8) W) := cK
    rw [hT]
    obtain ⟨f, hf⟩ : ∃ f, j + 1 = f := ⟨_, rfl⟩
    have l11 : (j : Int) + 1 = (f : Int) := by omega
    have hfl : f ≤ l.length := by omega
    have ext := bs_slice l j f
    rw [hf]
    generalize (l.take f).drop j = T at *
    clear hT hk hE hE1
    go_enter Tryz.func166, Tryz.ntmps166
    go_wp2_with fail
    refine (cK _).mono ?_
    rintro e w' ⟨rfl, rfl⟩
    generalize w.alloc (Obj.cells #[.int .i64 0, .string ⟨#[]⟩, .int .i64 0, .int .i64 0] 180) = w1 at *
    obtain ⟨v0, v1, v2, v3, v4, v5, v6, v7, v8⟩ := V0
    go_wp2_with fail
    refine bodyPost_ret (v := .tuple #[.agg #[.int .i64 4, .string (bs T), .int .i64 0, .int .i64 (j : Int)], .int .i64 0, .int .i64 (f : Int)]) (by simp [results, Tryz.results166, go_sem, v1, v2, v3, v4]) rfl ⟨by rw [← hf]; rfl, ?_⟩
    exact (((hg1.setCell (by simp) _).setCell (by simp) _).setCell (by simp) _).setCell (by simp) _
  · rw [hT]
    generalize kat l j = k at *
    have d2 : ((k : Int) == 2) = false := by simp; omega
    have d3 : ((k : Int) == 3) = false := by simp; omega
    have d5 : ((k : Int) == 5) = false := by simp; omega
    have d6 : ((k : Int) == 6) = false := by simp; omega
    have d8 : ((k : Int) == 8) = false := by simp; omega
    clear hT hE hE1 k2 k3 k5 k6 k8
    go_enter Tryz.func166, Tryz.ntmps166
    go_wp2_with fail
    refine (cK _).mono ?_
    rintro e w' ⟨rfl, rfl⟩
    generalize w.alloc (Obj.cells #[.int .i64 0, .string ⟨#[]⟩, .int .i64 0, .int .i64 0] 180) = w1 at *
    obtain ⟨v0, v1, v2, v3, v4, v5, v6, v7, v8⟩ := V0
    go_wp2_with fail
    refine bodyPost_ret (v := .tuple #[.agg #[.int .i64 0, .string ⟨#[]⟩, .int .i64 0, .int .i64 0], .int .i64 2, .int .i64 (j : Int)]) (by simp [results, Tryz.results166, go_sem, v1, v2, v3, v4]) rfl ⟨rfl, ?_⟩
    exact (((hg1.setCell (by simp) _).setCell (by simp) _).setCell (by simp) _).setCell (by simp) _
end Go.Proofs.YtcilkcnddgacgaaGreatDoor
/-
  The mathematics of what the developers' printing asks of the library: ReplaceAll at one byte, FormatInt, Join; which tokens are valid. No conditions beyond those that each names.
-/
namespace Go.Proofs.YtcilkcnddgacgaaGreatDoor
theorem index_cons (c b : UInt8) (l : List UInt8) : Lib.index (b :: l) [c] = if c = b then 0 else if Lib.index l [c] == -1 then -1 else Lib.index l [c] + 1 := by
  rw [Lib.index]
  simp [List.isPrefixOf]
theorem rk_skip (c : UInt8) (new : List UInt8) (b : UInt8) (h : c ≠ b) (k : Nat) (l : List UInt8) : Lib.replaceK [c] new k (b :: l) = b :: Lib.replaceK [c] new k l := by
  cases k with
  | zero => rfl
  | succ k =>
    have hg := Lib.index_ge l [c]
    rw [Lib.replaceK, Lib.replaceK, index_cons, if_neg h]
    by_cases e : Lib.index l [c] = -1
    · simp [e]
    · have e1 : (Lib.index l [c] == -1) = false := by simpa using e
      have e2 : (Lib.index l [c] + 1 == -1) = false := by simp; omega
      obtain ⟨i, hi⟩ : ∃ i : Nat, Lib.index l [c] = i := ⟨(Lib.index l [c]).toNat, by omega⟩
      rw [hi] at e1 e2 ⊢
      simp only [e1, e2, Bool.false_eq_true, if_false]
      rw [show ((i : Int) + 1).toNat = i + 1 by omega, show (i : Int).toNat = i by omega]
      rw [show i + 1 + [c].length = (i + [c].length) + 1 by omega]
      rfl
theorem rk_hit (c : UInt8) (new : List UInt8) (k : Nat) (l : List UInt8) : Lib.replaceK [c] new (k + 1) (c :: l) = new ++ Lib.replaceK [c] new k l := by
  rw [Lib.replaceK_hit [c] new k (c :: l) 0 (by rw [index_cons, if_pos rfl]; rfl)]
  rfl
theorem rk_all (c : UInt8) (new : List UInt8) (l : List UInt8) : Lib.replaceK [c] new (Lib.count l [c]) l = l.flatMap (fun b => if b = c then new else [b]) := by
  induction l with
  | nil =>
    rw [Lib.count_one]
    rfl
  | cons b l ih =>
    by_cases h : b = c
    · subst h
      rw [Lib.count_cons_eq, Nat.add_comm 1, rk_hit, ih]
      simp
    · rw [Lib.count_cons_ne _ _ _ h, rk_skip c new b (fun e => h e.symm), ih]
      simp [h]
theorem replaceAll_one (c : UInt8) (new l : List UInt8) (h : [c] ≠ new) : Lib.replaceAll l [c] new = l.flatMap (fun b => if b = c then new else [b]) := by
  unfold Lib.replaceAll Lib.replace
  rw [if_neg (by simpa using h)]
  unfold Lib.replaceNum
  rw [if_pos (.inl (by decide))]
  exact rk_all c new l
theorem esc_eq (l : List UInt8) : Lib.replaceAll (Lib.replaceAll l [92] [92, 92]) [34] [92, 34] = esc l := by
  rw [replaceAll_one _ _ _ (by decide), replaceAll_one _ _ _ (by decide)]
  induction l with
  | nil => rfl
  | cons b l ih =>
    rw [List.flatMap_cons, List.flatMap_append, ih]
    rw [show esc (b :: l) = (if b = 34 ∨ b = 92 then 92 :: b :: esc l else b :: esc l) from rfl]
    by_cases h1 : b = 92
    · subst h1
      rw [if_pos rfl, if_pos (.inr rfl)]
      rfl
    · rw [if_neg h1]
      by_cases h2 : b = 34
      · subst h2
        rw [if_pos (.inl rfl)]
        rfl
      · rw [if_neg (by simp [h1, h2])]
        simp [h2]
theorem dd_eq (n : Nat) : Lib.decDigits n = dg n := by
  induction n using Nat.strongRecOn with
  | ind n ih =>
    rw [Lib.decDigits]
    by_cases h : n < 10
    · rw [dif_pos h, dg_small h]
    · rw [dif_neg h, dg_big h, ih _ (by omega)]
theorem itoa_dec (n : Int) : Lib.itoa n = dec n := by
  unfold Lib.itoa dec
  rw [dd_eq, dd_eq]
  by_cases h : n < 0
  · rw [if_pos h, if_pos h]
  · rw [if_neg h, if_neg h, show n.toNat = n.natAbs by omega]
/-- What a token is written as. -/
def wrt (K : Int) (T : List UInt8) (N : Int) : List UInt8 := if K = 2 then dec N else if K = 3 then quo T else T
/-- Is a token the first one of what it is written as? -/
def back (K : Int) (T : List UInt8) (N : Int) : Bool := match tokAt (wrt K T N) 0 with
  | .error _ => false
  | .ok (kd, t, n, _) => decide ((kd : Int) = K) && (t == T) && (n == N)
theorem qs_bytes (l : List UInt8) : ∀ (n : Nat), l.length ≤ n → ∀ (i : Nat) (out t : List UInt8) (k : Nat), (∀ c ∈ out, 32 ≤ c.toNat ∧ c.toNat ≤ 126) → qs l i out = .ok (t, k) → ∀ c ∈ t, 32 ≤ c.toNat ∧ c.toNat ≤ 126 := by
  intro n
  induction n generalizing l with
  | zero =>
    intro hl i out t k ho h
    obtain rfl : l = [] := List.eq_nil_of_length_eq_zero (by omega)
    rw [qs] at h
    cases h
  | succ n ih =>
    intro hl i out t k ho h
    cases l with
    | nil => rw [qs] at h; cases h
    | cons c r =>
      rw [qs_cons] at h
      simp only [List.length_cons] at hl
      by_cases h34 : c = 34
      · rw [if_pos h34] at h
        injection h with h
        injection h with h1 h2
        subst h1
        exact ho
      · rw [if_neg h34] at h
        by_cases hr : c.toNat < 32 ∨ 126 < c.toNat
        · rw [if_pos hr] at h; cases h
        · rw [if_neg hr] at h
          by_cases h92 : c = 92
          · rw [if_pos h92] at h
            cases r with
            | nil => cases h
            | cons d r =>
              simp only at h
              by_cases hd : d = 34 ∨ d = 92
              · rw [if_pos hd] at h
                simp only [List.length_cons] at hl
                refine ih r (by omega) _ _ _ _ ?_ h
                intro x hx
                simp only [List.mem_append, List.mem_singleton] at hx
                rcases hx with hx | rfl
                · exact ho x hx
                · rcases hd with rfl | rfl <;> decide
              · rw [if_neg hd] at h; cases h
          · rw [if_neg h92] at h
            refine ih r (by omega) _ _ _ _ ?_ h
            intro x hx
            simp only [List.mem_append, List.mem_singleton] at hx
            rcases hx with hx | rfl
            · exact ho x hx
            · omega
theorem tok_more {c : UInt8} {r t : List UInt8} {kd k : Nat} {n : Int} (h : tok c r = .ok (kd, t, n, k)) :
    (kd = 1 → n = 0) ∧ (kd = 2 → t = []) ∧ (kd = 3 → n = 0 ∧ t.length ≤ 200 ∧ ∀ c ∈ t, 32 ≤ c.toNat ∧ c.toNat ≤ 126) ∧ (kd = 4 → n = 0 ∧ ∃ c, t = [c] ∧ isM c = true) := by
  unfold tok at h
  by_cases hL : isL c = true
  · rw [if_pos hL] at h
    by_cases h16 : 16 < ((c :: r).takeWhile isW).length
    · rw [if_pos h16] at h; cases h
    · rw [if_neg h16] at h
      by_cases h45 : ((c :: r).drop ((c :: r).takeWhile isW).length).head? = some 45
      · rw [if_pos h45] at h; cases h
      · rw [if_neg h45] at h
        injection h with h
        injection h with e1 h
        injection h with e2 h
        injection h with e3 e4
        subst e1 e3
        exact ⟨fun _ => rfl, fun e => absurd e (by decide), fun e => absurd e (by decide), fun e => absurd e (by decide)⟩
  · rw [if_neg hL] at h
    by_cases hD : (isD c || c == 45) = true
    · rw [if_pos hD] at h
      generalize numOf (c == 45) ((if c == 45 then r else c :: r).takeWhile isD) = q at h
      cases q with
      | error x => cases h
      | ok x =>
        simp only at h
        by_cases hj : ((c :: r).drop ((c == 45).toNat + ((if c == 45 then r else c :: r).takeWhile isD).length)).head?.any (fun d => isW d || d == 45) = true
        · rw [if_pos hj] at h; cases h
        · rw [if_neg hj] at h
          injection h with h
          injection h with e1 h
          injection h with e2 h
          subst e1 e2
          exact ⟨fun e => absurd e (by decide), fun _ => rfl, fun e => absurd e (by decide), fun e => absurd e (by decide)⟩
    · rw [if_neg hD] at h
      by_cases h34 : c = 34
      · rw [if_pos h34] at h
        cases hq : qs r 1 [] with
        | error x => rw [hq] at h; cases h
        | ok x =>
          obtain ⟨t', k'⟩ := x
          rw [hq] at h
          simp only at h
          by_cases h200 : 200 < t'.length
          · rw [if_pos h200] at h; cases h
          · rw [if_neg h200] at h
            injection h with h
            injection h with e1 h
            injection h with e2 h
            injection h with e3 e4
            subst e1 e2 e3
            exact ⟨fun e => absurd e (by decide), fun e => absurd e (by decide), fun _ => ⟨rfl, by omega, qs_bytes _ _ (Nat.le_refl _) _ _ _ _ (by simp) hq⟩, fun e => absurd e (by decide)⟩
      · rw [if_neg h34] at h
        by_cases hM : isM c = true
        · rw [if_pos hM] at h
          injection h with h
          injection h with e1 h
          injection h with e2 h
          injection h with e3 e4
          subst e1 e2 e3
          exact ⟨fun e => absurd e (by decide), fun e => absurd e (by decide), fun e => absurd e (by decide), fun _ => ⟨rfl, _, rfl, hM⟩⟩
        · rw [if_neg hM] at h; cases h
end Go.Proofs.YtcilkcnddgacgaaGreatDoor

