/-
  Contracts of the developers' isDecimal and cutNumber. No conditions but Go's own bounds of a string's length, and what the library's tables hold.
-/
import Derived.Test.YtgifienjfaclmaaGreatDoorNe
import Derived.Test.YtgifienjfaclmaaGreatDoorLl
namespace Go.Proofs.YtgifienjfaclmaaGreatDoor
open Go.RowKit
set_option maxRecDepth 100000 in
set_option maxHeartbeats 2000000 in
theorem isDecimal_any (x : List UInt8) (w : World) : Calls Tryz.prog 42 #[.string (bs x)] w (Is (.bool (dcm x)) w) := by
  have hn0 : (⟨#[]⟩ : ByteArray) = bs [] := rfl
  have hn1 : (⟨#[48]⟩ : ByteArray) = bs [48] := rfl
  have hn2 : (⟨#[45]⟩ : ByteArray) = bs [45] := rfl
  have cT := fun W => Tryz.strings_TrimPrefix (bs x) (bs [45]) W
  rw [bs_list, bs_list] at cT
  have e1 := str_beq x [48]
  unfold dcm
  generalize Lib.trimPrefix x [45] = t at *
  have e2 := str_beq t []
  obtain ⟨b, hb⟩ : ∃ b, (x == [48]) = b := ⟨_, rfl⟩
  rw [hb] at e1 ⊢
  clear hb
  have cT : ∀ W, Calls Tryz.prog 49 #[.string (bs x), .string (bs [45])] W (Is (.string (bs t)) W) := fun W => (cT W).mono (by rintro e w' ⟨rfl, rfl⟩; exact ⟨rfl, rfl⟩)
  cases t with
  | nil =>
    cases b
    all_goals
      go_enter Tryz.func42, Tryz.ntmps42
      go_wp2_with fail
      refine (cT _).mono ?_
      rintro e w' ⟨rfl, rfl⟩
      go_wp2_with fail
      go_ret
      exact ret_bool rfl
  | cons c r =>
    have hsz : (bs (c :: r)).size = r.length + 1 := rfl
    have h0 : 0 < (bs (c :: r)).size := by omega
    have hc : ((bs (c :: r))[0]'h0).toNat = c.toNat := rfl
    have hz : ((c.toNat : Int) != 48) = nz (c :: r) := by
      show (!((c.toNat : Int) == ((48 : UInt8).toNat : Int))) = (!(c == 48))
      rw [← beq_nat]
    have hz2 := Lib.hid hz
    clear hz
    cases b
    all_goals
      go_enter Tryz.func42, Tryz.ntmps42
      go_wp2_with fail
      refine (cT _).mono ?_
      rintro e w' ⟨rfl, rfl⟩
      go_wp2_with fail
      go_ret
      refine ret_bool ?_
      first | rfl | exact hz2.out
/-- A number's token by what follows it. -/
theorem tokAt_num {l : List UInt8} {j dj m : Nat} {neg : Bool} (h : j < l.length) (hL : isL (l[j]'h) = false) (hD : (isD (l[j]'h) || (l[j]'h) == 45) = true) (hneg : ((l[j]'h) == 45) = neg) (hdj : j + neg.toNat = dj) (hm : dj + ((l.drop dj).takeWhile isD).length = m) :
    dj ≤ l.length ∧ m ≤ l.length ∧ dj ≤ m ∧ j < m ∧ (l.take m).drop j = ntx neg ((l.drop dj).takeWhile isD) ∧
    tokAt l j = (match numOf neg ((l.drop dj).takeWhile isD) with | .error e => .error (if e = 1 then 4 else 2, 0) | .ok n => if jn l m then .error (2, m - j) else .ok (2, [], n, m - j)) := by
  have hlen : ((l.drop dj).takeWhile isD).length ≤ l.length - dj := tw_le isD l dj
  have hd := List.drop_eq_getElem_cons h
  have e1 : (if (l[j]'h) == 45 then l.drop (j + 1) else (l[j]'h) :: l.drop (j + 1)) = l.drop dj := by
    rw [hneg, ← hd, ← hdj]
    cases neg <;> rfl
  have hdl : dj ≤ l.length := by cases neg <;> simp at hdj <;> omega
  have hjm : j < m := by
    cases neg
    · have h0 : dj = j := by simpa using hdj.symm
      subst h0
      rw [hneg, Bool.or_false] at hD
      have := tw_at isD l dj h
      rw [if_pos hD] at this
      omega
    · simp at hdj; omega
  have hs : ((l.take m).drop j) = ntx neg ((l.drop dj).takeWhile isD) := by
    have hp := tw_prefix isD l dj
    rw [hm] at hp
    unfold ntx
    cases neg
    · have h0 : dj = j := by simpa using hdj.symm
      subst h0
      exact hp
    · have h0 : dj = j + 1 := by simpa using hdj.symm
      subst h0
      have hc : (l[j]'h) = 45 := by simpa using hneg
      have hlt : j < (l.take m).length := by rw [List.length_take]; omega
      rw [List.drop_eq_getElem_cons hlt, hp, List.getElem_take, hc]
      rfl
  refine ⟨hdl, by omega, by omega, hjm, hs, ?_⟩
  rw [tokAt_cons h]
  unfold tok
  rw [if_neg (by rw [hL]; decide), if_pos hD, e1, hneg, ← hd]
  have hmj : neg.toNat + ((l.drop dj).takeWhile isD).length = m - j := by omega
  have hq : ((l.drop j).drop (m - j)).head? = l[m]? := by rw [drop_head, show j + (m - j) = m by omega]
  rw [hmj, hq, jn_eq]
  rfl
theorem var_next {w w' : World} {P : Program} {n : String} {cs : Array Value} (h : w.var? P n = some cs) (hb : Below w.heap.size w w') : w'.var? P n = some cs := by
  unfold World.var? at h ⊢
  cases e : P.globalNamed n with
  | none => rw [e] at h; cases h
  | some g =>
    rw [e] at h
    simp only [Option.bind_some] at h ⊢
    cases e2 : w.heap[g]? with
    | none => rw [e2] at h; cases h
    | some o =>
      rw [hb.block g (Array.getElem?_eq_some_iff.1 e2).1, e2]
      rw [e2] at h
      exact h
/-- What the library's variables hold. -/
structure Env (w : World) : Prop where
  rng : ∃ tp p, w.var? Tryz.prog "strconv.ErrRange" = some #[.iface tp p]
  tab : Lib.TabIs Tryz.prog w "internal/strconv.uint64pow10" .u64 Lib.pow10Tab
theorem Env.next {w w' : World} (h : Env w) (hb : Below w.heap.size w w') : Env w' :=
  ⟨by obtain ⟨tp, p, e⟩ := h.rng; exact ⟨tp, p, var_next e hb⟩, var_next h.tab hb⟩
theorem parse_ok (x : List UInt8) (v : Int) (w : World) (hx : x.length ≤ 9223372036854775000) (h : Lib.parseIntB 64 x = .ok v) :
    Calls Tryz.prog 43 #[.string (bs x), .int .i64 10, .int .i64 64] w (Ib (.tuple #[.int .i64 v, .nilIface]) w) := by
  refine (Tryz.strconv_ParseInt_10_at64_ok (bs x) (by show x.length ≤ _; omega) v h w).mono ?_
  rintro e w' ⟨rfl, rfl | ⟨t, rfl⟩⟩
  · exact ⟨rfl, Below.refl _ _⟩
  · exact ⟨rfl, Lib.bytesWorld_below _ _ _⟩
theorem parse_range (x : List UInt8) (w : World) (hx : x.length ≤ 281474976710656) (h : Lib.parseIntB 64 x = .range) (hE : Env w) :
    Calls Tryz.prog 43 #[.string (bs x), .int .i64 10, .int .i64 64] w (fun e w' => ∃ (N : Nat), e = .returned (.tuple #[.int .i64 (Lib.intSat 64 x), .iface 83 (.pointer (some ⟨N, 0, none⟩))]) ∧ Below w.heap.size w w') := by
  obtain ⟨tp, p, hv⟩ := hE.rng
  refine (Tryz.strconv_ParseInt_10_at64_range_var (bs x) hx h tp p w hv).mono ?_
  rintro e w' ⟨N, rfl, -, -, hb⟩
  exact ⟨N, rfl, hb⟩
set_option maxRecDepth 100000 in
set_option maxHeartbeats 2000000 in
theorem cutNum_any (l : List UInt8) (j : Nat) (w : World) (hl : l.length ≤ 281474976710656) (h : j < l.length) (hL : isL (l[j]'h) = false) (hD : (isD (l[j]'h) || (l[j]'h) == 45) = true) (hE : Env w) :
    Calls Tryz.prog 33 #[.string (bs l), .int .i64 (j : Int)] w (CutP j (tokAt l j) w) := by
  have hsz : (bs l).size = l.length := rfl
  obtain ⟨neg, hneg⟩ : ∃ b, ((l[j]'h) == 45) = b := ⟨_, rfl⟩
  obtain ⟨dj, hdj⟩ : ∃ m, j + neg.toNat = m := ⟨_, rfl⟩
  obtain ⟨m, hm⟩ : ∃ m, dj + ((l.drop dj).takeWhile isD).length = m := ⟨_, rfl⟩
  obtain ⟨g1, g2, g3, g4, g5, g6⟩ := tokAt_num h hL hD hneg hdj hm
  have ext : (bs l).extract j m = bs (ntx neg ((l.drop dj).takeWhile isD)) := by rw [← g5]; exact bs_slice l j m
  have hall : ∀ c ∈ (l.drop dj).takeWhile isD, isD c = true := fun c hc => List.all_eq_true.1 List.all_takeWhile c hc
  have hnt := num_text neg _ hall
  have hxl : (ntx neg ((l.drop dj).takeWhile isD)).length ≤ l.length := by
    rw [← g5, List.length_drop, List.length_take]; omega
  have V0 := V4.new w (.int .i64 0) (.string ⟨#[]⟩) (.int .i64 0) (.int .i64 0) 34
  have hg1 := grown1 (w := w) (Obj.cells #[.int .i64 0, .string ⟨#[]⟩, .int .i64 0, .int .i64 0] 34)
  have hs1 : (w.alloc (Obj.cells #[.int .i64 0, .string ⟨#[]⟩, .int .i64 0, .int .i64 0] 34)).heap.size = w.heap.size + 1 := by simp
  have hK := Ks.of (w := w.alloc (Obj.cells #[.int .i64 0, .string ⟨#[]⟩, .int .i64 0, .int .i64 0] 34)) (ks := [3]) (t := 56)
  have hg2 := grown1 (w := w.alloc (Obj.cells #[.int .i64 0, .string ⟨#[]⟩, .int .i64 0, .int .i64 0] 34)) (Obj.cells #[.int .i64 3] 56)
  rw [hs1] at hK
  have V0 := V0.next hg2
  have hg := Below.next hg1 hg2
  have cP := past_any (w.heap.size + 1) 1 [3] l dj ((w.alloc (Obj.cells #[.int .i64 0, .string ⟨#[]⟩, .int .i64 0, .int .i64 0] 34)).alloc (Obj.cells #[.int .i64 3] 56)) (by omega) g1 (by decide) hK rfl
  rw [inK_digit, hm] at cP
  have cK := fun W => kindAt_any l j W
  have cD := fun W => isDecimal_any (ntx neg ((l.drop dj).takeWhile isD)) W
  have cJ := fun W => joined_any l m W
  have c1 := fun v W h => parse_ok (ntx neg ((l.drop dj).takeWhile isD)) v W (by omega) h
  have c2 := fun W h => parse_range (ntx neg ((l.drop dj).takeWhile isD)) W (by omega) h
  obtain ⟨d, hd⟩ : ∃ d, m - j = d := ⟨_, rfl⟩
  have hjd : j + d = m := by omega
  rw [hd] at g6
  obtain ⟨b, hb⟩ : ∃ b, jn l m = b := ⟨_, rfl⟩
  rw [hb] at g6 cJ
  have hk5 : (kat l j = 5 ∧ neg = true) ∨ (kat l j ≠ 5 ∧ neg = false) := by
    rw [kat_lt h]
    have := (kd_facts (l[j]'h)).2.2.2.1
    cases neg
    · exact .inr ⟨fun e => (by rw [this.1 e] at hneg; cases hneg), rfl⟩
    · exact .inl ⟨this.2 (by simpa using hneg), rfl⟩
  have G : (dcm (ntx neg ((l.drop dj).takeWhile isD)) = false ∧ tokAt l j = .error (2, 0)) ∨ (dcm (ntx neg ((l.drop dj).takeWhile isD)) = true ∧ Lib.parseIntB 64 (ntx neg ((l.drop dj).takeWhile isD)) = .range ∧ tokAt l j = .error (4, 0)) ∨
      ∃ n : Int, dcm (ntx neg ((l.drop dj).takeWhile isD)) = true ∧ Lib.parseIntB 64 (ntx neg ((l.drop dj).takeWhile isD)) = .ok n ∧ ((b = true ∧ tokAt l j = .error (2, d)) ∨ (b = false ∧ tokAt l j = .ok (2, [], n, d))) := by
    rcases hnt with ⟨a1, a2⟩ | ⟨a1, a2, a3⟩ | ⟨n, a1, a2, a3, -, -⟩
    · rw [a2] at g6; exact .inl ⟨a1, g6⟩
    · rw [a3] at g6; exact .inr (.inl ⟨a1, a2, g6⟩)
    · rw [a3] at g6
      refine .inr (.inr ⟨n, a1, a2, ?_⟩)
      cases b
      · exact .inr ⟨rfl, g6⟩
      · exact .inl ⟨rfl, g6⟩
  generalize ntx neg ((l.drop dj).takeWhile isD) = X at *
  generalize tokAt l j = R at *
  generalize dcm X = dx at *
  clear g6 hnt
  have hdj2 : (neg = true → (j : Int) + 1 = (dj : Int)) ∧ (neg = false → j = dj) := by
    constructor
    · intro e; subst e; rw [← hdj]; rfl
    · intro e; subst e; rw [← hdj]; rfl
  clear hb hm hL hD hneg hall g5 hg1 hg2 hs1 hdj
  have V1 := fun q => V0.next (below_drewN (Below.refl _ _) q)
  have hgq := fun q => below_drewN hg q
  clear V0 hK hg
  generalize kat l j = k at *
  obtain ⟨b5, hb5, hdj3⟩ : ∃ b5, ((k : Int) == 5) = b5 ∧ ((b5 = true ∧ (j : Int) + 1 = (dj : Int)) ∨ (b5 = false ∧ j = dj)) := by
    rcases hk5 with ⟨rfl, e⟩ | ⟨e1, e⟩
    · exact ⟨true, rfl, .inl ⟨rfl, hdj2.1 e⟩⟩
    · exact ⟨false, by simp; omega, .inr ⟨rfl, hdj2.2 e⟩⟩
  clear hk5 hdj2 h
  have hE1 := fun q => hE.next (hgq q)
  rcases hdj3 with ⟨rfl, l11⟩ | ⟨rfl, rfl⟩
  all_goals
    rcases G with ⟨rfl, rfl⟩ | ⟨rfl, hp, rfl⟩ | ⟨n, rfl, hp, ⟨rfl, rfl⟩ | ⟨rfl, rfl⟩⟩
    all_goals
      go_enter Tryz.func33, Tryz.ntmps33
      go_wp2_with fail
      refine (cK _).mono ?_
      rintro e w' ⟨rfl, rfl⟩
      go_wp2_with fail
      refine cP.mono ?_
      rintro e w' ⟨q, rfl, rfl⟩
      have v := V1 q
      have hg := hgq q
      have hE2 := hE1 q
      generalize ((w.alloc (Obj.cells #[.int .i64 0, .string ⟨#[]⟩, .int .i64 0, .int .i64 0] 34)).alloc (Obj.cells #[.int .i64 3] 56)).drewN q = w2 at *
      clear hgq V1 hE1 cP
      go_wp2_with fail
      refine (cD _).mono ?_
      rintro e w' ⟨rfl, rfl⟩
      clear cK cD
    · obtain ⟨v0, v1, v2, v3, v4, v5, v6, v7, v8⟩ := v
      go_wp2_with fail
      refine bodyPost_ret (v := .tuple #[.agg #[.int .i64 0, .string ⟨#[]⟩, .int .i64 0, .int .i64 0], .int .i64 2, .int .i64 (j : Int)]) (by simp [results, Tryz.results33, go_sem, v1, v2, v3, v4]) rfl ⟨rfl, ?_⟩
      exact (((hg.setCell (by simp) _).setCell (by simp) _).setCell (by simp) _).setCell (by simp) _
    · go_wp2_with fail
      refine (c2 _ hp hE2).mono ?_
      rintro e w3 ⟨N, rfl, hb3⟩
      have hg := Below.next hg hb3
      obtain ⟨v0, v1, v2, v3, v4, v5, v6, v7, v8⟩ := v.next hb3
      clear hb3 hE2
      go_wp2_with fail
      refine bodyPost_ret (v := .tuple #[.agg #[.int .i64 0, .string ⟨#[]⟩, .int .i64 0, .int .i64 0], .int .i64 4, .int .i64 (j : Int)]) (by simp [results, Tryz.results33, go_sem, v1, v2, v3, v4]) rfl ⟨rfl, ?_⟩
      exact (((hg.setCell (by simp) _).setCell (by simp) _).setCell (by simp) _).setCell (by simp) _
    · go_wp2_with fail
      refine (c1 _ _ hp).mono ?_
      rintro e w3 ⟨rfl, hb3⟩
      have hg := Below.next hg hb3
      obtain ⟨v0, v1, v2, v3, v4, v5, v6, v7, v8⟩ := v.next hb3
      clear hb3 hE2
      go_wp2_with fail
      refine (cJ _).mono ?_
      rintro e w' ⟨rfl, rfl⟩
      go_wp2_with fail
      refine bodyPost_ret (v := .tuple #[.agg #[.int .i64 0, .string ⟨#[]⟩, .int .i64 0, .int .i64 0], .int .i64 2, .int .i64 (m : Int)]) (by simp [results, Tryz.results33, go_sem, v1, v2, v3, v4]) rfl ⟨by rw [← hjd]; rfl, ?_⟩
      exact (((hg.setCell (by simp) _).setCell (by simp) _).setCell (by simp) _).setCell (by simp) _
    · go_wp2_with fail
      refine (c1 _ _ hp).mono ?_
      rintro e w3 ⟨rfl, hb3⟩
      have hg := Below.next hg hb3
      obtain ⟨v0, v1, v2, v3, v4, v5, v6, v7, v8⟩ := v.next hb3
      clear hb3 hE2
      go_wp2_with fail
      refine (cJ _).mono ?_
      rintro e w' ⟨rfl, rfl⟩
      go_wp2_with fail
      refine bodyPost_ret (v := .tuple #[.agg #[.int .i64 2, .string ⟨#[]⟩, .int .i64 n, .int .i64 (j : Int)], .int .i64 0, .int .i64 (m : Int)]) (by simp [results, Tryz.results33, go_sem, v1, v2, v3, v4]) rfl ⟨by rw [← hjd]; rfl, ?_⟩
      exact (((hg.setCell (by simp) _).setCell (by simp) _).setCell (by simp) _).setCell (by simp) _
end Go.Proofs.YtgifienjfaclmaaGreatDoor
