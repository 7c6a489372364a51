/-
  Contract of the reference's Parse. No conditions but the string's size.
-/
import Derived.Test.YtaiceebhifecbaaDoorT35
namespace Go.Proofs.YtaiceebhifecbaaDoor
open Go.RowKit
theorem c_small (zs rs : List Nat) (r : Nat) (hr : r < 4294967296) (hz : zs.length ≤ 390) (hv : Nm.nat (Nm.val zs * 10 + r) = rs) : ∀ x u w, (Fact.num zs).holds x w → (Fact.eq (.int .u64 (r : Int))).holds u w → Calls Tryd.prog 53 #[x, .int .u64 10, u] w (Ret (Fact.num rs) w) := by
  rintro x u w ⟨A, c, rfl, h⟩ rfl
  exact (small_n h hz 10 r (Lib.hid (by decide)) hr rs hv).mono fun e w' ⟨A', c', he, hn, hb⟩ => ⟨_, he, hb, ⟨A', c', rfl, hn⟩⟩
/-- What is known of a region's slots. -/
def parseF (s : ByteArray) (zs rs : List Nat) (k c r : Nat) (t : Nat) : Fact := (([(0, Fact.eq (.string s)), (4, Fact.var zs), (5, Fact.eq (.int .i64 (k : Int))), (40, Fact.num zs), (41, Fact.eq (.string s)), (42, Fact.eq (.int .i64 (k : Int))), (43, Fact.eq (.int .u8 (c : Int))), (44, Fact.eq (.int .u8 (r : Int))), (45, Fact.eq (.int .u64 (r : Int))), (46, Fact.num rs)] : List (Nat × Fact)).lookup t).getD Fact.any
/-- What Parse returns. -/
def ParseRet (s : ByteArray) (e : Ending) (w' : World) : Prop :=
  ∃ A n c zs, e = .returned (.tuple #[nt A n c, .int .i64 (Nm.chk (Bt s) : Int)]) ∧ Num w' A n c zs ∧ (Nm.chk (Bt s) ≠ 0 → zs = []) ∧ (Nm.chk (Bt s) = 0 → zs = Nm.nat (Nm.dval (Bt s)))
theorem parse_err {s : ByteArray} {e : Ending} {w' : World} {n : Nat} (hn : Nm.chk (Bt s) = n) (h0 : n ≠ 0) (he : e = .returned (.tuple #[nt none 0 0, .int .i64 (n : Int)])) : ParseRet s e w' := by
  subst hn
  exact ⟨none, 0, 0, [], he, ⟨.inl rfl, rfl, Nat.le_refl _, Nm.Dig.nil, by decide⟩, fun _ => rfl, fun h => absurd h h0⟩
/-- The loop of Parse: the number of the first k digits. -/
def RParseRel (b : Nat) (s : ByteArray) (w : World) (iv : Value) (wr : World) : Prop :=
  ∃ (k : Nat) (A : Option Addr) (n c : Nat) (zs : List Nat), k ≤ s.size ∧ iv = .int .i64 (k : Int) ∧ Var wr b A n c zs ∧ wr.frozen? ⟨b, 0, none⟩ = false ∧ Hid (zs = Nm.nat (Nm.dval ((Bt s).take k))) ∧ Hid (Nm.alldec ((Bt s).take k)) ∧ Hid (zs.length ≤ 45) ∧ Below w.heap.size w wr ∧ w.heap.size ≤ wr.heap.size
theorem emp_iff (s : ByteArray) : s.toList.isEmpty = decide (s.size = 0) := by
  rw [ByteArray.toList_eq]
  obtain ⟨⟨l⟩⟩ := s
  cases l <;> simp [ByteArray.size]
theorem ten_small : 10 ^ 400 ≤ 4294967296 ^ 42 := by decide +kernel
theorem chk_bad {l : List Nat} (h0 : l.length ≠ 0) (h4 : ¬ 400 < l.length) (hd : ¬ Nm.alldec l) : Nm.chk l = 2 := by
  unfold Nm.chk
  rw [if_neg h0, if_neg h4, if_pos hd]
theorem chk_lead {l : List Nat} (h0 : l.length ≠ 0) (h4 : ¬ 400 < l.length) (h : l.head? = some 48 ∧ 1 < l.length) : Nm.chk l = 2 := by
  unfold Nm.chk
  rw [if_neg h0, if_neg h4]
  by_cases hd : Nm.alldec l
  · rw [if_neg (by simpa using hd), if_pos h]
  · rw [if_pos hd]
theorem chk_ok {l : List Nat} (h0 : l.length ≠ 0) (h4 : ¬ 400 < l.length) (hd : Nm.alldec l) (h : ¬ (l.head? = some 48 ∧ 1 < l.length)) : Nm.chk l = 0 := by
  unfold Nm.chk
  rw [if_neg h0, if_neg h4, if_neg (by simpa using hd), if_neg h]
set_option maxRecDepth 100000 in
set_option maxHeartbeats 2000000 in
theorem refParse_any (s : ByteArray) (w : World) (hs : s.size ≤ 1000000) :
    Calls Tryd.prog 32 #[.string s] w fun e w' => ParseRet s e w' ∧ Below w.heap.size w w' := by
  have hl := Bt_length s
  have he := emp_iff s
  by_cases h0 : s.size = 0
  · have hc : Nm.chk (Bt s) = 1 := by unfold Nm.chk; rw [if_pos (by omega)]
    have Hc := Lib.hid hc
    rw [decide_eq_true h0] at he
    clear hl hc
    go_enter Tryd.func32, Tryd.ntmps32
    go_wp2_with fail
    refine bodyPost_ret (v := .tuple #[nt none 0 0, .int .i64 1]) (by simp [results, Tryd.results32, go_sem]) rfl ⟨parse_err Hc.out (by decide) rfl, ?_⟩
    exact one _ _
  rw [decide_eq_false h0] at he
  by_cases h4 : 400 < s.size
  · have hc : Nm.chk (Bt s) = 3 := by unfold Nm.chk; rw [if_neg (by omega), if_pos (by omega)]
    have Hc := Lib.hid hc
    clear hl hc
    go_enter Tryd.func32, Tryd.ntmps32
    go_wp2_with fail
    refine bodyPost_ret (v := .tuple #[nt none 0 0, .int .i64 3]) (by simp [results, Tryd.results32, go_sem]) rfl ⟨parse_err Hc.out (by decide) rfl, ?_⟩
    exact one _ _
  have hs0 : 0 < s.size := by omega
  have hat0 := Bt_at s 0 hs0
  obtain ⟨d, hd⟩ : ∃ d : Nat, s[0].toNat = d := ⟨_, rfl⟩
  rw [hd] at hat0
  have hhead : (Bt s).head? = some d := by rw [List.head?_eq_getElem?]; exact hat0
  have Hhead := Lib.hid hhead
  clear hat0 hhead
  by_cases h48 : d = 48
  · subst h48
    by_cases h1 : 1 < s.size
    · have hc : Nm.chk (Bt s) = 2 := chk_lead (by omega) (by omega) ⟨Hhead.out, by omega⟩
      have Hc := Lib.hid hc
      clear hl hc
      go_enter Tryd.func32, Tryd.ntmps32
      go_wp2_with fail
      refine bodyPost_ret (v := .tuple #[nt none 0 0, .int .i64 2]) (by simp [results, Tryd.results32, go_sem]) rfl ⟨parse_err Hc.out (by decide) rfl, ?_⟩
      exact one _ _
    · go_enter Tryd.func32, Tryd.ntmps32
      go_wp2_with fail
      have va : Var ((w.alloc (Obj.cells #[Value.slice none 0 0] 24)).alloc (Obj.cells #[Value.slice none 0 0] 24)) (w.heap.size + 1) none 0 0 [] := Var.at_ ⟨.inl rfl, rfl, Nat.le_refl _, Nm.Dig.nil, by decide⟩ (by simp)
      have fa : ((w.alloc (Obj.cells #[Value.slice none 0 0] 24)).alloc (Obj.cells #[Value.slice none 0 0] 24)).frozen? ⟨w.heap.size + 1, 0, none⟩ = false := new_soft _ _ _ _ (by simp)
      have hb0 := one w (Obj.cells #[Value.slice none 0 0] 24)
      have hcell0 : (w.alloc (Obj.cells #[Value.slice none 0 0] 24)).cell? ⟨w.heap.size, 0, none⟩ = some (.slice none 0 0) := new_cell _ _ _ _ rfl
      have hfz0 : (w.alloc (Obj.cells #[Value.slice none 0 0] 24)).frozen? ⟨w.heap.size, 0, none⟩ = false := new_soft _ _ _ _ rfl
      have hb1 := one (w.alloc (Obj.cells #[Value.slice none 0 0] 24)) (Obj.cells #[Value.slice none 0 0] 24)
      have hs0 : (w.alloc (Obj.cells #[Value.slice none 0 0] 24)).heap.size = w.heap.size + 1 := by simp
      go_loopw [5] (fun iv wr => RParseRel (w.heap.size + 1) s (w.alloc (Obj.cells #[Value.slice none 0 0] 24)) iv wr) (fun i _ => s.size - (intOf i).toNat)
      case atStart => exact ⟨0, none, 0, 0, [], Nat.zero_le _, rfl, va, fa, by show _ = _; simp [Nm.dval, Nm.nat_zero], fun _ h => by simp at h, by show _ ≤ _; decide, hb1, hb1.size⟩
      case round =>
        obtain ⟨k, A, n, c1, zs, hk, rfl, va, fa, hzv, hdec, Hzl, hbj, hBj⟩ := hrel
        obtain rfl := va.num.len
        obtain ⟨k1, k2⟩ := seen hbj
        have hcr : wr.cell? ⟨w.heap.size, 0, none⟩ = some (.slice none 0 0) := by rw [k1 _ _ (by omega)]; exact hcell0
        have hfr : wr.frozen? ⟨w.heap.size, 0, none⟩ = false := by rw [k2 _ _ (by omega)]; exact hfz0
        have kva := va.cell
        clear k1 k2
        by_cases hlt : k < s.size
        · have hat := Bt_at s k hlt
          obtain ⟨c, hc⟩ : ∃ c : Nat, s[k].toNat = c := ⟨_, rfl⟩
          rw [hc] at hat
          by_cases hlo : c < 48
          · have hfin : Nm.chk (Bt s) = 2 := chk_bad (by omega) (by omega) fun h => by
              have := h c (List.mem_of_getElem? hat)
              omega
            have Hf := Lib.hid hfin
            have hlo2 : (c : Int) < 48 := by omega
            clear hat hfin
            go_wp2_with fail
            refine bodyPost_ret (v := .tuple #[nt none 0 0, .int .i64 2]) (by simp [results, Tryd.results32, go_sem, hcr]) rfl ⟨parse_err Hf.out (by decide) rfl, (hb0.trans (hbj.mono (by omega))).setCell (Nat.le_refl _) _⟩
          · by_cases hhi : 57 < c
            · have hfin : Nm.chk (Bt s) = 2 := chk_bad (by omega) (by omega) fun h => by
                have := h c (List.mem_of_getElem? hat)
                omega
              have Hf := Lib.hid hfin
              have hlo2 : ¬ (c : Int) < 48 := by omega
              have hhi2 : (57 : Int) < (c : Int) := by omega
              clear hat hfin
              go_wp2_with fail
              refine bodyPost_ret (v := .tuple #[nt none 0 0, .int .i64 2]) (by simp [results, Tryd.results32, go_sem, hcr]) rfl ⟨parse_err Hf.out (by decide) rfl, (hb0.trans (hbj.mono (by omega))).setCell (Nat.le_refl _) _⟩
            · have hlo2 : ¬ (c : Int) < 48 := by omega
              have hhi2 : ¬ (57 : Int) < (c : Int) := by omega
              obtain ⟨r, hr⟩ : ∃ r, c = r + 48 := ⟨c - 48, by omega⟩
              have hr9 : c = r + 48 ∧ r < 10 := ⟨hr, by omega⟩
              have hdec2 : Nm.alldec ((Bt s).take (k + 1)) := by
                rw [List.take_add_one, hat]
                intro x hx
                rcases List.mem_append.1 hx with h | h
                · exact hdec.out x h
                · simp at h; omega
              have hdv : Nm.dval ((Bt s).take (k + 1)) = 10 * Nm.dval ((Bt s).take k) + r := by
                rw [Nm.dval_take_succ _ _ _ hat]
                omega
              obtain ⟨rs, hrs⟩ : ∃ rs, Nm.nat (Nm.val zs * 10 + r) = rs := ⟨_, rfl⟩
              have hrv : rs = Nm.nat (Nm.dval ((Bt s).take (k + 1))) := by rw [← hrs, hdv, hzv.out, Nm.val_nat, Nat.mul_comm]
              have hrl : rs.length ≤ 45 := by
                rw [hrv]
                refine Nat.le_trans (Nm.nat_len (k := 42) (Nat.lt_of_lt_of_le (Nm.dval_lt _ hdec2) ?_)) (by decide)
                refine Nat.le_trans (Nat.pow_le_pow_right (by omega) (?_ : _ ≤ 400)) ten_small
                rw [List.length_take]
                omega
              have Hr := Lib.hid hr9
              have HR := Lib.hid hrs
              have Hrv := Lib.hid hrv
              have Hrl := Lib.hid hrl
              have Hdec2 := Lib.hid hdec2
              clear hat hr hr9 hdec2 hdv hrs hrv hrl
              go_wp2_with fail
              refine wp_region_then (by kernel_rfl) (parseF s zs rs k c r) [4, 0, 5] 48 7 [40, 41, 42, 43, 44, 45, 46] rfl (by kernel_rfl) (by kernel_rfl) (by decide) (by kernel_rfl) ?_ ?_ ?_
              · intro t ht
                simp only [List.mem_cons, List.not_mem_nil, or_false] at ht
                rcases ht with rfl | rfl | rfl
                · exact ⟨_, _, _, rfl, va⟩
                · rfl
                · rfl
              · refine List.forall_mem_cons.2 ⟨ob_load 4 40 zs rfl rfl (by first | exact .inl rfl | exact .inr ⟨_, _, _, rfl, rfl, by kernel_rfl, by decide, rfl⟩) (by kernel_rfl) rfl rfl, ?_⟩
                refine List.forall_mem_cons.2 ⟨ob_copy 0 41 (.inl rfl) rfl (by first | exact .inl rfl | exact .inr ⟨_, _, _, rfl, rfl, by kernel_rfl, by decide, rfl⟩) (by kernel_rfl) rfl, ?_⟩
                refine List.forall_mem_cons.2 ⟨ob_copy 5 42 (.inl rfl) rfl (by first | exact .inl rfl | exact .inr ⟨_, _, _, rfl, rfl, by kernel_rfl, by decide, rfl⟩) (by kernel_rfl) rfl, ?_⟩
                refine List.forall_mem_cons.2 ⟨ob_two 41 42 43 _ _ _ rfl (by first | exact .inl rfl | exact .inr ⟨_, _, _, rfl, rfl, by kernel_rfl, by decide, rfl⟩) (by kernel_rfl) (by kernel_rfl) rfl rfl rfl (fun a w h1 h2 => go_index_str s k c hlt hc a w 41 42 _ rfl h1 h2), ?_⟩
                refine List.forall_mem_cons.2 ⟨ob_one 43 44 _ _ rfl (by first | exact .inl rfl | exact .inr ⟨_, _, _, rfl, rfl, by kernel_rfl, by decide, rfl⟩) (by kernel_rfl) rfl rfl (fun a w h1 => go_sub_u8 c r (by have := Hr.out; omega) (by have := Hr.out; omega) a w 43 _ rfl h1), ?_⟩
                refine List.forall_mem_cons.2 ⟨ob_one 44 45 _ _ rfl (by first | exact .inl rfl | exact .inr ⟨_, _, _, rfl, rfl, by kernel_rfl, by decide, rfl⟩) (by kernel_rfl) rfl rfl (fun a w h1 => go_conv_u8 r (by have := Hr.out; omega) a w 44 _ rfl h1), ?_⟩
                refine List.forall_mem_cons.2 ⟨ob_callm 53 40 45 46 _ _ rfl rfl (by first | exact .inl rfl | exact .inr ⟨_, _, _, rfl, rfl, by kernel_rfl, by decide, rfl⟩) (by kernel_rfl) (by kernel_rfl) (by kernel_rfl) (c_small zs rs r (by have := Hr.out; omega) (by have := Hzl.out; omega) HR.out), ?_⟩
                exact fun _ h => absurd h List.not_mem_nil
              intro vv wv hvv hbv
              obtain ⟨Ar, cr, hv46, nr⟩ := hvv 46 (by decide)
              simp only [lay, List.foldl_cons, List.foldl_nil, List.setIfInBounds_toArray, List.set_cons_succ, List.set_cons_zero, List.drop_succ_cons, List.drop_zero, hv46]
              have hvlt := va.lt
              have va := va.below hbv
              obtain ⟨k1, k2⟩ := seen hbv
              have fa2 : wv.frozen? ⟨w.heap.size + 1, 0, none⟩ = false := by rw [k2 _ _ hvlt]; exact fa
              clear k1 k2 kva
              have kva := va.cell
              go_wp2_with fail
              refine ⟨⟨k + 1, Ar, rs.length, cr, rs, by omega, by go_num, ⟨by simpa using va.lt, World.cell?_setCell_same (u := _) _ _ _ kva, ⟨nr.rd.setCell kva (by simp), rfl, nr.cap, nr.dig, nr.small⟩⟩, by rw [World.frozen?_setCell]; exact fa2, Hrv, Hdec2, Hrl, (up hbj hbv).setCell (by show _ ≤ w.heap.size + 1; omega) _, ?_⟩, by simp [intOf]; omega⟩
              simpa using Nat.le_trans hBj hbv.size
        · have hkk : k = s.size := by omega
          have hfin : Nm.chk (Bt s) = 0 ∧ zs = Nm.nat (Nm.dval (Bt s)) := by
            have h1 : (Bt s).take k = Bt s := List.take_of_length_le (by omega)
            refine ⟨chk_ok (by omega) (by omega) (h1 ▸ hdec.out) ?_, ?_⟩
            · intro h
              omega
            · rw [hzv.out, h1]
          have Hf := Lib.hid hfin
          clear hfin hkk
          go_wp2_with fail
          refine bodyPost_ret (v := .tuple #[nt A zs.length c1, .int .i64 0]) (by simp [results, Tryd.results32, go_sem, hcr]) rfl ⟨⟨A, zs.length, c1, zs, by rw [Hf.out.1]; rfl, ⟨va.num.rd.setCell hcr (by simp), rfl, va.num.cap, va.num.dig, va.num.small⟩, fun h => absurd Hf.out.1 h, fun _ => Hf.out.2⟩, (hb0.trans (hbj.mono (by omega))).setCell (Nat.le_refl _) _⟩
  · have hb48 : ((d : Int) == 48) = false := by rw [beq_eq_false_iff_ne]; omega
    go_enter Tryd.func32, Tryd.ntmps32
    go_wp2_with fail
    have va : Var ((w.alloc (Obj.cells #[Value.slice none 0 0] 24)).alloc (Obj.cells #[Value.slice none 0 0] 24)) (w.heap.size + 1) none 0 0 [] := Var.at_ ⟨.inl rfl, rfl, Nat.le_refl _, Nm.Dig.nil, by decide⟩ (by simp)
    have fa : ((w.alloc (Obj.cells #[Value.slice none 0 0] 24)).alloc (Obj.cells #[Value.slice none 0 0] 24)).frozen? ⟨w.heap.size + 1, 0, none⟩ = false := new_soft _ _ _ _ (by simp)
    have hb0 := one w (Obj.cells #[Value.slice none 0 0] 24)
    have hcell0 : (w.alloc (Obj.cells #[Value.slice none 0 0] 24)).cell? ⟨w.heap.size, 0, none⟩ = some (.slice none 0 0) := new_cell _ _ _ _ rfl
    have hfz0 : (w.alloc (Obj.cells #[Value.slice none 0 0] 24)).frozen? ⟨w.heap.size, 0, none⟩ = false := new_soft _ _ _ _ rfl
    have hb1 := one (w.alloc (Obj.cells #[Value.slice none 0 0] 24)) (Obj.cells #[Value.slice none 0 0] 24)
    have hs0 : (w.alloc (Obj.cells #[Value.slice none 0 0] 24)).heap.size = w.heap.size + 1 := by simp
    go_loopw [5] (fun iv wr => RParseRel (w.heap.size + 1) s (w.alloc (Obj.cells #[Value.slice none 0 0] 24)) iv wr) (fun i _ => s.size - (intOf i).toNat)
    case atStart => exact ⟨0, none, 0, 0, [], Nat.zero_le _, rfl, va, fa, by show _ = _; simp [Nm.dval, Nm.nat_zero], fun _ h => by simp at h, by show _ ≤ _; decide, hb1, hb1.size⟩
    case round =>
      obtain ⟨k, A, n, c1, zs, hk, rfl, va, fa, hzv, hdec, Hzl, hbj, hBj⟩ := hrel
      obtain rfl := va.num.len
      obtain ⟨k1, k2⟩ := seen hbj
      have hcr : wr.cell? ⟨w.heap.size, 0, none⟩ = some (.slice none 0 0) := by rw [k1 _ _ (by omega)]; exact hcell0
      have hfr : wr.frozen? ⟨w.heap.size, 0, none⟩ = false := by rw [k2 _ _ (by omega)]; exact hfz0
      have kva := va.cell
      clear k1 k2
      by_cases hlt : k < s.size
      · have hat := Bt_at s k hlt
        obtain ⟨c, hc⟩ : ∃ c : Nat, s[k].toNat = c := ⟨_, rfl⟩
        rw [hc] at hat
        by_cases hlo : c < 48
        · have hfin : Nm.chk (Bt s) = 2 := chk_bad (by omega) (by omega) fun h => by
            have := h c (List.mem_of_getElem? hat)
            omega
          have Hf := Lib.hid hfin
          have hlo2 : (c : Int) < 48 := by omega
          clear hat hfin
          go_wp2_with fail
          refine bodyPost_ret (v := .tuple #[nt none 0 0, .int .i64 2]) (by simp [results, Tryd.results32, go_sem, hcr]) rfl ⟨parse_err Hf.out (by decide) rfl, (hb0.trans (hbj.mono (by omega))).setCell (Nat.le_refl _) _⟩
        · by_cases hhi : 57 < c
          · have hfin : Nm.chk (Bt s) = 2 := chk_bad (by omega) (by omega) fun h => by
              have := h c (List.mem_of_getElem? hat)
              omega
            have Hf := Lib.hid hfin
            have hlo2 : ¬ (c : Int) < 48 := by omega
            have hhi2 : (57 : Int) < (c : Int) := by omega
            clear hat hfin
            go_wp2_with fail
            refine bodyPost_ret (v := .tuple #[nt none 0 0, .int .i64 2]) (by simp [results, Tryd.results32, go_sem, hcr]) rfl ⟨parse_err Hf.out (by decide) rfl, (hb0.trans (hbj.mono (by omega))).setCell (Nat.le_refl _) _⟩
          · have hlo2 : ¬ (c : Int) < 48 := by omega
            have hhi2 : ¬ (57 : Int) < (c : Int) := by omega
            obtain ⟨r, hr⟩ : ∃ r, c = r + 48 := ⟨c - 48, by omega⟩
            have hr9 : c = r + 48 ∧ r < 10 := ⟨hr, by omega⟩
            have hdec2 : Nm.alldec ((Bt s).take (k + 1)) := by
              rw [List.take_add_one, hat]
              intro x hx
              rcases List.mem_append.1 hx with h | h
              · exact hdec.out x h
              · simp at h; omega
            have hdv : Nm.dval ((Bt s).take (k + 1)) = 10 * Nm.dval ((Bt s).take k) + r := by
              rw [Nm.dval_take_succ _ _ _ hat]
              omega
            obtain ⟨rs, hrs⟩ : ∃ rs, Nm.nat (Nm.val zs * 10 + r) = rs := ⟨_, rfl⟩
            have hrv : rs = Nm.nat (Nm.dval ((Bt s).take (k + 1))) := by rw [← hrs, hdv, hzv.out, Nm.val_nat, Nat.mul_comm]
            have hrl : rs.length ≤ 45 := by
              rw [hrv]
              refine Nat.le_trans (Nm.nat_len (k := 42) (Nat.lt_of_lt_of_le (Nm.dval_lt _ hdec2) ?_)) (by decide)
              refine Nat.le_trans (Nat.pow_le_pow_right (by omega) (?_ : _ ≤ 400)) ten_small
              rw [List.length_take]
              omega
            have Hr := Lib.hid hr9
            have HR := Lib.hid hrs
            have Hrv := Lib.hid hrv
            have Hrl := Lib.hid hrl
            have Hdec2 := Lib.hid hdec2
            clear hat hr hr9 hdec2 hdv hrs hrv hrl
            go_wp2_with fail
            refine wp_region_then (by kernel_rfl) (parseF s zs rs k c r) [4, 0, 5] 48 7 [40, 41, 42, 43, 44, 45, 46] rfl (by kernel_rfl) (by kernel_rfl) (by decide) (by kernel_rfl) ?_ ?_ ?_
            · intro t ht
              simp only [List.mem_cons, List.not_mem_nil, or_false] at ht
              rcases ht with rfl | rfl | rfl
              · exact ⟨_, _, _, rfl, va⟩
              · rfl
              · rfl
            · refine List.forall_mem_cons.2 ⟨ob_load 4 40 zs rfl rfl (by first | exact .inl rfl | exact .inr ⟨_, _, _, rfl, rfl, by kernel_rfl, by decide, rfl⟩) (by kernel_rfl) rfl rfl, ?_⟩
              refine List.forall_mem_cons.2 ⟨ob_copy 0 41 (.inl rfl) rfl (by first | exact .inl rfl | exact .inr ⟨_, _, _, rfl, rfl, by kernel_rfl, by decide, rfl⟩) (by kernel_rfl) rfl, ?_⟩
              refine List.forall_mem_cons.2 ⟨ob_copy 5 42 (.inl rfl) rfl (by first | exact .inl rfl | exact .inr ⟨_, _, _, rfl, rfl, by kernel_rfl, by decide, rfl⟩) (by kernel_rfl) rfl, ?_⟩
              refine List.forall_mem_cons.2 ⟨ob_two 41 42 43 _ _ _ rfl (by first | exact .inl rfl | exact .inr ⟨_, _, _, rfl, rfl, by kernel_rfl, by decide, rfl⟩) (by kernel_rfl) (by kernel_rfl) rfl rfl rfl (fun a w h1 h2 => go_index_str s k c hlt hc a w 41 42 _ rfl h1 h2), ?_⟩
              refine List.forall_mem_cons.2 ⟨ob_one 43 44 _ _ rfl (by first | exact .inl rfl | exact .inr ⟨_, _, _, rfl, rfl, by kernel_rfl, by decide, rfl⟩) (by kernel_rfl) rfl rfl (fun a w h1 => go_sub_u8 c r (by have := Hr.out; omega) (by have := Hr.out; omega) a w 43 _ rfl h1), ?_⟩
              refine List.forall_mem_cons.2 ⟨ob_one 44 45 _ _ rfl (by first | exact .inl rfl | exact .inr ⟨_, _, _, rfl, rfl, by kernel_rfl, by decide, rfl⟩) (by kernel_rfl) rfl rfl (fun a w h1 => go_conv_u8 r (by have := Hr.out; omega) a w 44 _ rfl h1), ?_⟩
              refine List.forall_mem_cons.2 ⟨ob_callm 53 40 45 46 _ _ rfl rfl (by first | exact .inl rfl | exact .inr ⟨_, _, _, rfl, rfl, by kernel_rfl, by decide, rfl⟩) (by kernel_rfl) (by kernel_rfl) (by kernel_rfl) (c_small zs rs r (by have := Hr.out; omega) (by have := Hzl.out; omega) HR.out), ?_⟩
              exact fun _ h => absurd h List.not_mem_nil
            intro vv wv hvv hbv
            obtain ⟨Ar, cr, hv46, nr⟩ := hvv 46 (by decide)
            simp only [lay, List.foldl_cons, List.foldl_nil, List.setIfInBounds_toArray, List.set_cons_succ, List.set_cons_zero, List.drop_succ_cons, List.drop_zero, hv46]
            have hvlt := va.lt
            have va := va.below hbv
            obtain ⟨k1, k2⟩ := seen hbv
            have fa2 : wv.frozen? ⟨w.heap.size + 1, 0, none⟩ = false := by rw [k2 _ _ hvlt]; exact fa
            clear k1 k2 kva
            have kva := va.cell
            go_wp2_with fail
            refine ⟨⟨k + 1, Ar, rs.length, cr, rs, by omega, by go_num, ⟨by simpa using va.lt, World.cell?_setCell_same (u := _) _ _ _ kva, ⟨nr.rd.setCell kva (by simp), rfl, nr.cap, nr.dig, nr.small⟩⟩, by rw [World.frozen?_setCell]; exact fa2, Hrv, Hdec2, Hrl, (up hbj hbv).setCell (by show _ ≤ w.heap.size + 1; omega) _, ?_⟩, by simp [intOf]; omega⟩
            simpa using Nat.le_trans hBj hbv.size
      · have hkk : k = s.size := by omega
        have hfin : Nm.chk (Bt s) = 0 ∧ zs = Nm.nat (Nm.dval (Bt s)) := by
          have h1 : (Bt s).take k = Bt s := List.take_of_length_le (by omega)
          refine ⟨chk_ok (by omega) (by omega) (h1 ▸ hdec.out) ?_, ?_⟩
          · intro h
            exact h48 (Option.some.inj (Hhead.out.symm.trans h.1))
          · rw [hzv.out, h1]
        have Hf := Lib.hid hfin
        clear hfin hkk
        go_wp2_with fail
        refine bodyPost_ret (v := .tuple #[nt A zs.length c1, .int .i64 0]) (by simp [results, Tryd.results32, go_sem, hcr]) rfl ⟨⟨A, zs.length, c1, zs, by rw [Hf.out.1]; rfl, ⟨va.num.rd.setCell hcr (by simp), rfl, va.num.cap, va.num.dig, va.num.small⟩, fun h => absurd Hf.out.1 h, fun _ => Hf.out.2⟩, (hb0.trans (hbj.mono (by omega))).setCell (Nat.le_refl _) _⟩
end Go.Proofs.YtaiceebhifecbaaDoor
