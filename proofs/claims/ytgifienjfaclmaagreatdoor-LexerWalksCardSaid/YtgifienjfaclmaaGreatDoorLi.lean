/-
  The reference's scan. No conditions but Go's own bounds of a string's length.
-/
import Derived.Test.YtgifienjfaclmaaGreatDoorLh
namespace Go.Proofs.YtgifienjfaclmaaGreatDoor
open Go.RowKit
/-- A token's cells. -/
def tc (t : Tk) : List Value := [.int .i64 (t.kind : Int), .string (bs t.text), .int .i64 t.num, .int .i64 (t.at_ : Int)]
def tcells (l : List Tk) : List Value := l.flatMap tc
theorem tcells_length (l : List Tk) : (tcells l).length = l.length * 4 := by
  induction l with
  | nil => rfl
  | cons t l ih => simp [tcells, tc] at ih ⊢; omega
/-- The slice v owns the tokens l. -/
def Ot (B : Nat) (w : World) (v : Value) (l : List Tk) : Prop := w.ownsRow B 34 4 v l.length (tcells l)
theorem Ot.nil (B : Nat) (w : World) : Ot B w (.slice none 0 0) [] := World.ownsRow_nil _ _ _ _
theorem Ot.other {B : Nat} {w w' : World} {v : Value} {l : List Tk} (h : Ot B w v l) (hb : Below w.heap.size w w') : Ot B w' v l := by
  unfold Ot World.ownsRow at *
  refine ⟨h.1, ?_⟩
  rcases h.2 with h1 | ⟨g, cap, cur, h1, h2, h3, h4⟩
  · exact .inl h1
  · refine .inr ⟨g, cap, cur, h1, h2, ?_, h4⟩
    rw [hb.block g (Array.getElem?_eq_some_iff.1 h3).1]
    exact h3
theorem infoT : (Tryz.prog.info? 34).map (fun i => (i.zero, i.size, i.bytes)) = some (some (.agg #[.int .i64 0, .string ⟨#[]⟩, .int .i64 0, .int .i64 0]), 4, 40) := by kernel_rfl
theorem wpList_pushT {w : World} {ops : Array Oper} {rest : List Oper} {o : Oper} {a : Act} {Q : Exit → Act → World → Prop} (hgd : o.guard = none) (s x : Operand)
    (ho : o.op = .call { callee := .builtin .append, args := #[s, x], argTypes := #[28, 28] }) (B : Nat) (v : Value) (l : List Tk) (t : Tk) (g d : Nat) (hs : a.eval s = v) (hx : a.eval x = .slice (some ⟨g, 0, none⟩) 1 d)
    (hown : Ot B w v l) (hc : ∀ j u, (tc t)[j]? = some u → w.cell? ⟨g, j, none⟩ = some u) (hm : l.length ≤ 100000) (hB : B ≤ w.heap.size)
    (h : ∀ v' w', Ot B w' v' (l ++ [t]) → w.grownBy w' v.ownBlock → wpList Tryz.prog ops Q rest (a.put o.dst v') w') : wpList Tryz.prog ops Q (o :: rest) a w := by
  obtain ⟨i, hi, hz, hs5, hby⟩ := info_parts infoT
  refine wpList_append_own_at w hgd s x 28 ho B 34 i _ 4 40 Tryz.underlying28 hi hz hs5 hby rfl (by omega) v l.length (tcells l) hs hown ⟨g, 0, none⟩ 1 d (tc t) hx rfl
    (by intro j u hj
        rw [show (⟨g, 0, none⟩ : Addr).add j = ⟨g, j, none⟩ by simp [Addr.add]; exact Eq.symm]
        exact hc j u hj) (by simp [tc, Value.oneCell']) (by simp only [maxLen]; omega) (by omega) hB ?_
  intro v' w' h1 h2 _ _
  refine h v' w' ?_ h2
  unfold Ot
  rw [show tcells (l ++ [t]) = tcells l ++ tc t by simp [tcells], List.length_append]
  exact h1
/-- What a scan leaves. -/
def ScanP (R : Except (Nat × Nat) (List Tk)) (w : World) (e : Ending) (w' : World) : Prop := Below w.heap.size w w' ∧ match R with
  | .error (x, p) => e = .returned (.tuple #[.slice none 0 0, .int .i64 (x : Int), .int .i64 (p : Int)])
  | .ok ts => ∃ v, e = .returned (.tuple #[v, .int .i64 0, .int .i64 0]) ∧ Ot w.heap.size w' v ts
theorem ScanP.err {R : Except (Nat × Nat) (List Tk)} {w w' : World} {x p : Nat} (h : R = .error (x, p)) (hb : Below w.heap.size w w') : ScanP R w (.returned (.tuple #[.slice none 0 0, .int .i64 (x : Int), .int .i64 (p : Int)])) w' := by
  subst h
  exact ⟨hb, rfl⟩
theorem ScanP.ok {R : Except (Nat × Nat) (List Tk)} {w w' : World} {ts : List Tk} {v : Value} (h : R = .ok ts) (hb : Below w.heap.size w w') (ho : Ot w.heap.size w' v ts) : ScanP R w (.returned (.tuple #[v, .int .i64 0, .int .i64 0])) w' := by
  subst h
  exact ⟨hb, v, rfl, ho⟩
theorem numb_any (l : List UInt8) (a : Nat) (c : UInt8) (w : World) (hl : l.length ≤ 9223372036854700000) (ha : a < l.length) (hc : l[a]'ha = c) :
    Calls Tryz.prog 26 #[.string (bs l), .int .i64 (a : Int)] w (Is (t4 (numR (c == 45) l a)) w) := by
  have hg : l[a]? = some c := by rw [List.getElem?_eq_getElem ha, hc]
  by_cases h : c = 45
  · subst h
    exact numb_neg l a w hl ha hg
  · rw [show (c == 45) = false by simpa using h]
    exact numb_pos l a w hl ha (by rw [hg]; exact fun e => h (Option.some.inj e))
theorem two_ {w : World} (o p : Obj) : Below w.heap.size w ((w.alloc o).alloc p) := ((Below.refl _ w).alloc (Nat.le_refl _) o).alloc (by simp) p
theorem cells4 {w : World} {t : Tk} {ty : TypeId} {o : Obj} : ∀ j u, (tc t)[j]? = some u → ((w.alloc o).alloc (Obj.cells #[.int .i64 (t.kind : Int), .string (bs t.text), .int .i64 t.num, .int .i64 (t.at_ : Int)] ty)).cell? ⟨w.heap.size + 1, j, none⟩ = some u := by
  intro j u h
  rw [World.cell?]
  simp only [heap_alloc2_new]
  match j, h with
  | 0, h => simpa [tc] using h
  | 1, h => simpa [tc] using h
  | 2, h => simpa [tc] using h
  | 3, h => simpa [tc] using h
  | j + 4, h => simp [tc] at h
theorem cells4a {w : World} {t : Tk} {ty : TypeId} : ∀ j u, (tc t)[j]? = some u → (w.alloc (Obj.cells #[.int .i64 (t.kind : Int), .string (bs t.text), .int .i64 t.num, .int .i64 (t.at_ : Int)] ty)).cell? ⟨w.heap.size, j, none⟩ = some u := by
  intro j u h
  rw [World.cell?]
  simp only [heap_alloc_new]
  match j, h with
  | 0, h => simpa [tc] using h
  | 1, h => simpa [tc] using h
  | 2, h => simpa [tc] using h
  | 3, h => simpa [tc] using h
  | j + 4, h => simp [tc] at h
set_option maxRecDepth 100000 in
set_option maxHeartbeats 4000000 in
theorem refScan_any (l : List UInt8) (w : World) (hl : l.length ≤ 4000) :
    Calls Tryz.prog 17 #[.string (bs l)] w (ScanP (scan l) w) := by
  have hsz : (bs l).size = l.length := rfl
  have hn0 : (⟨#[]⟩ : ByteArray) = bs [] := rfl
  obtain ⟨R, hR⟩ : ∃ R, scan l = R := ⟨_, rfl⟩
  have h0 := At.start l hl
  rw [hR] at h0 ⊢
  have H0 := Lib.hid h0
  have c0 := skip_any l 0 w (by omega) (by omega)
  rw [List.drop_zero] at c0
  have hs0 := sk_length false l
  obtain ⟨p0, hp0⟩ : ∃ p0, l.length - (sk false l).length = p0 := ⟨_, rfl⟩
  rw [hp0] at c0 h0
  have H0 := Lib.hid h0
  have hp1 : p0 ≤ l.length := by omega
  clear h0 hp0 hs0 hR
  go_enter Tryz.func17, Tryz.ntmps17
  go_wp2_with fail
  refine c0.mono ?_
  rintro e w' ⟨rfl, rfl⟩
  go_wp2_with fail
  go_loopw [5, 6] (fun v i wr => ∃ (j : Nat) (ts : List Tk), j ≤ l.length ∧ ts.length ≤ j ∧ i = .int .i64 (j : Int) ∧ Ot w.heap.size wr v ts ∧ Below w.heap.size w wr ∧ Hid (At l R j ts)) (fun _ i _ => l.length - (intOf i).toNat)
  case atStart => exact ⟨p0, [], hp1, by simp, rfl, Ot.nil _ _, Below.refl _ _, H0⟩
  case round =>
    obtain ⟨j, ts, hj, htl, rfl, ho, hb, hI⟩ := hrel
    clear c0 H0
    by_cases hlt : j < l.length
    · have hlt2 : j < (bs l).size := hlt
      have hd : l.drop j = l[j]'hlt :: l.drop (j + 1) := List.drop_eq_getElem_cons hlt
      obtain ⟨c, hc⟩ : ∃ c, l[j]'hlt = c := ⟨_, rfl⟩
      rw [hc] at hd
      have hcb : ((bs l)[j]'hlt2).toNat = c.toNat := by rw [← hc]; rfl
      have c1 := fun W => letter_any c W
      cases hL : isL c
      · rw [hL] at c1
        have c3 := fun W => digit_any c W
        cases hD : isD c
        · rw [hD] at c3
          by_cases h45 : c = 45
          · have c2 := fun W => numb_any l j c W (by omega) hlt hc
            have hx := num_tok hd hL (by rw [hD, h45]; rfl)
            subst h45
            rcases hx with ⟨e, x, wh, h1, h2, h3, h4⟩ | ⟨k, n, h1, h2, h3, h4⟩
            · rw [h1] at c2
              unfold t4 at c2
              have hcb : ((bs l)[j]'hlt2).toNat = 45 := hcb
              have c1 : ∀ W, Calls Tryz.prog 23 #[.int .u8 45] W (Is (.bool false) W) := c1
              have c3 : ∀ W, Calls Tryz.prog 25 #[.int .u8 45] W (Is (.bool false) W) := c3
              have H := Lib.hid (show R = .error (x, wh) by rw [hI.out.err hd h4, show j + (wh - j) = wh by omega])
              clear hI hd h1 h4
              rcases h2 with rfl | rfl
              all_goals
                go_wp2_with fail
                refine (c1 _).mono ?_
                rintro e' w' ⟨rfl, rfl⟩
                go_wp2_with fail
                refine (c3 _).mono ?_
                rintro e' w5 ⟨rfl, rfl⟩
                go_wp2_with fail
                refine (c2 _).mono ?_
                rintro e' w2 ⟨rfl, rfl⟩
                go_wp2_with fail
                go_ret3
                exact ScanP.err H.out (hb.alloc hb.size _)
            · rw [h1] at c2
              unfold t4 at c2
              have hcb : ((bs l)[j]'hlt2).toNat = 45 := hcb
              have c1 : ∀ W, Calls Tryz.prog 23 #[.int .u8 45] W (Is (.bool false) W) := c1
              have c3 : ∀ W, Calls Tryz.prog 25 #[.int .u8 45] W (Is (.bool false) W) := c3
              obtain ⟨en, hen⟩ : ∃ en, j + k = en := ⟨_, rfl⟩
              obtain ⟨E1, E2⟩ := hI.out.next hd h4 h2 h3
              have hki : (j : Int) + (k : Int) = (en : Int) := by omega
              rw [hen] at E1 E2 h3 c2
              have cs := fun W => skip_any l en W (by omega) h3
              have hs2 := sk_length false (l.drop en)
              rw [List.length_drop] at hs2
              obtain ⟨j2, hj2⟩ : ∃ j2, l.length - (sk false (l.drop en)).length = j2 := ⟨_, rfl⟩
              rw [hj2] at E1 E2 cs
              have hj3 : j2 ≤ l.length := by omega
              have hbs := hb.size
              have hjen : j ≤ en := by omega
              have E := Lib.hid E1
              clear hI hd h1 h4 hj2 hs2 E1
              go_wp2_with fail
              refine (c1 _).mono ?_
              rintro e' w' ⟨rfl, rfl⟩
              go_wp2_with fail
              refine (c3 _).mono ?_
              rintro e' w5 ⟨rfl, rfl⟩
              go_wp2_with fail
              refine (c2 _).mono ?_
              rintro e' w2 ⟨rfl, rfl⟩
              go_wp2_with (at_builtin; refine wpList_pushT rfl (.tmp 88) (.tmp 90) rfl w.heap.size u5 ts ⟨2, [], n, j⟩ _ 1 rfl rfl (ho.other (two_ _ _)) cells4 (by omega) (by simp; omega) ?_; intro v' w3 ho' hg')
              refine (cs _).mono ?_
              rintro e' w4 ⟨rfl, rfl⟩
              go_wp2_with fail
              go_roundw
              case rel => exact ⟨j2, ts ++ [⟨2, [], n, j⟩], hj3, by simp; omega, by go_num, ho', (Below.next hb (two_ _ _)).grown hg' (by simp; omega) (fun q hq => (ho.lt q hq).1), E⟩
              case measure => simp [intOf]; omega
          · by_cases h34 : c = 34
            · subst h34
              have c2 := fun W => quoted_any l j W (by omega) hlt
              rcases quo_tok hd with ⟨e, x, wh, h1, h2, h3, h4⟩ | ⟨k, t, h1, h2, h3, h4⟩
              · rw [h1] at c2
                have hcb : ((bs l)[j]'hlt2).toNat = 34 := hcb
                have c1 : ∀ W, Calls Tryz.prog 23 #[.int .u8 34] W (Is (.bool false) W) := c1
                have c3 : ∀ W, Calls Tryz.prog 25 #[.int .u8 34] W (Is (.bool false) W) := c3
                have H := Lib.hid (show R = .error (x, wh) by rw [hI.out.err hd h4, show j + (wh - j) = wh by omega])
                clear hI hd h1 h4
                rcases h2 with rfl | rfl
                all_goals
                  go_wp2_with fail
                  refine (c1 _).mono ?_
                  rintro e' w' ⟨rfl, rfl⟩
                  go_wp2_with fail
                  refine (c3 _).mono ?_
                  rintro e' w5 ⟨rfl, rfl⟩
                  go_wp2_with fail
                  refine (c2 _).mono ?_
                  rintro e' w2 ⟨rfl, rfl⟩
                  go_wp2_with fail
                  go_ret3
                  exact ScanP.err H.out (hb.alloc hb.size _)
              · rw [h1] at c2
                have hcb : ((bs l)[j]'hlt2).toNat = 34 := hcb
                have c1 : ∀ W, Calls Tryz.prog 23 #[.int .u8 34] W (Is (.bool false) W) := c1
                have c3 : ∀ W, Calls Tryz.prog 25 #[.int .u8 34] W (Is (.bool false) W) := c3
                obtain ⟨en, hen⟩ : ∃ en, j + k = en := ⟨_, rfl⟩
                obtain ⟨E1, E2⟩ := hI.out.next hd h4 h2 h3
                have hki : (j : Int) + (k : Int) = (en : Int) := by omega
                rw [hen] at E1 E2 h3 c2
                have cs := fun W => skip_any l en W (by omega) h3
                have hs2 := sk_length false (l.drop en)
                rw [List.length_drop] at hs2
                obtain ⟨j2, hj2⟩ : ∃ j2, l.length - (sk false (l.drop en)).length = j2 := ⟨_, rfl⟩
                rw [hj2] at E1 E2 cs
                have hj3 : j2 ≤ l.length := by omega
                have hbs := hb.size
                have hjen : j ≤ en := by omega
                have E := Lib.hid E1
                clear hI hd h1 h4 hj2 hs2 E1
                go_wp2_with fail
                refine (c1 _).mono ?_
                rintro e' w' ⟨rfl, rfl⟩
                go_wp2_with fail
                refine (c3 _).mono ?_
                rintro e' w5 ⟨rfl, rfl⟩
                go_wp2_with fail
                refine (c2 _).mono ?_
                rintro e' w2 ⟨rfl, rfl⟩
                go_wp2_with (at_builtin; refine wpList_pushT rfl (.tmp 88) (.tmp 90) rfl w.heap.size u5 ts ⟨3, t, 0, j⟩ _ 1 rfl rfl (ho.other (two_ _ _)) cells4 (by omega) (by simp; omega) ?_; intro v' w3 ho' hg')
                refine (cs _).mono ?_
                rintro e' w4 ⟨rfl, rfl⟩
                go_wp2_with fail
                go_roundw
                case rel => exact ⟨j2, ts ++ [⟨3, t, 0, j⟩], hj3, by simp; omega, by go_num, ho', (Below.next hb (two_ _ _)).grown hg' (by simp; omega) (fun q hq => (ho.lt q hq).1), E⟩
                case measure => simp [intOf]; omega
            · have c5 := fun W => mark_any c W
              cases hM : isM c
              · rw [hM] at c5
                have H := Lib.hid (show R = .error (2, j) from hI.out.err hd (no_tok _ hL (by rw [hD]; simpa using h45) h34 hM))
                have g45 : ((c.toNat : Int) == 45) = false := (beq_nat c 45).symm.trans (by simpa using h45)
                have f45 : ((c.toNat : Int) = 45) = False := by simp at g45 ⊢; omega
                have g34 : ((c.toNat : Int) == 34) = false := (beq_nat c 34).symm.trans (by simpa using h34)
                have f34 : ((c.toNat : Int) = 34) = False := by simp at g34 ⊢; omega
                generalize hcn : c.toNat = cn at *
                clear hcn hI hd
                go_wp2_with fail
                refine (c1 _).mono ?_
                rintro e' w' ⟨rfl, rfl⟩
                go_wp2_with fail
                refine (c3 _).mono ?_
                rintro e' w5 ⟨rfl, rfl⟩
                go_wp2_with fail
                refine (c5 _).mono ?_
                rintro e' w6 ⟨rfl, rfl⟩
                go_wp2_with fail
                go_ret3
                exact ScanP.err H.out (hb.alloc hb.size _)
              · rw [hM] at c5
                have h4 := mark_tok (l.drop (j + 1)) hM
                obtain ⟨k, hk⟩ : ∃ k, k = 1 := ⟨_, rfl⟩
                have h2 : 1 ≤ k := by omega
                have h3 : j + k ≤ l.length := by omega
                have h1 := h2
                have hsl : (bs l).extract j (j + k) = bs [c] := by rw [hk, one_byte l j hlt, hc]
                have h4 : tok c (l.drop (j + 1)) = .ok (4, [c], 0, k) := by rw [hk]; exact h4
                have hk1 : (j : Int) + 1 = ((j + k : Nat) : Int) := by omega
                have g45 : ((c.toNat : Int) == 45) = false := (beq_nat c 45).symm.trans (by simpa using h45)
                have f45 : ((c.toNat : Int) = 45) = False := by simp at g45 ⊢; omega
                have g34 : ((c.toNat : Int) == 34) = false := (beq_nat c 34).symm.trans (by simpa using h34)
                have f34 : ((c.toNat : Int) = 34) = False := by simp at g34 ⊢; omega
                generalize hcn : c.toNat = cn at *
                clear hcn
                obtain ⟨en, hen⟩ : ∃ en, j + k = en := ⟨_, rfl⟩
                obtain ⟨E1, E2⟩ := hI.out.next hd h4 h2 h3
                have hki : (j : Int) + (k : Int) = (en : Int) := by omega
                rw [hen] at E1 E2 h3 hsl hk1
                have cs := fun W => skip_any l en W (by omega) h3
                have hs2 := sk_length false (l.drop en)
                rw [List.length_drop] at hs2
                obtain ⟨j2, hj2⟩ : ∃ j2, l.length - (sk false (l.drop en)).length = j2 := ⟨_, rfl⟩
                rw [hj2] at E1 E2 cs
                have hj3 : j2 ≤ l.length := by omega
                have hbs := hb.size
                have hjen : j ≤ en := by omega
                have E := Lib.hid E1
                clear hki hk hI hd h1 h4 hj2 hs2 E1
                go_wp2_with fail
                refine (c1 _).mono ?_
                rintro e' w' ⟨rfl, rfl⟩
                go_wp2_with fail
                refine (c3 _).mono ?_
                rintro e' w5 ⟨rfl, rfl⟩
                go_wp2_with fail
                refine (c5 _).mono ?_
                rintro e' w6 ⟨rfl, rfl⟩
                go_wp2_with (at_builtin; refine wpList_pushT rfl (.tmp 88) (.tmp 90) rfl w.heap.size u5 ts ⟨4, [c], 0, j⟩ _ 1 rfl rfl (ho.other (two_ _ _)) cells4 (by omega) (by simp; omega) ?_; intro v' w3 ho' hg')
                refine (cs _).mono ?_
                rintro e' w4 ⟨rfl, rfl⟩
                go_wp2_with fail
                go_roundw
                case rel => exact ⟨j2, ts ++ [⟨4, [c], 0, j⟩], hj3, by simp; omega, by go_num, ho', (Below.next hb (two_ _ _)).grown hg' (by simp; omega) (fun q hq => (ho.lt q hq).1), E⟩
                case measure => simp [intOf]; omega
        · rw [hD] at c3
          have c2 := fun W => numb_any l j c W (by omega) hlt hc
          rcases num_tok hd hL (by rw [hD]; rfl) with ⟨e, x, wh, h1, h2, h3, h4⟩ | ⟨k, n, h1, h2, h3, h4⟩
          · rw [h1] at c2
            unfold t4 at c2
            generalize hcn : c.toNat = cn at *
            clear hcn
            have H := Lib.hid (show R = .error (x, wh) by rw [hI.out.err hd h4, show j + (wh - j) = wh by omega])
            clear hI hd h1 h4
            rcases h2 with rfl | rfl
            all_goals
              go_wp2_with fail
              refine (c1 _).mono ?_
              rintro e' w' ⟨rfl, rfl⟩
              go_wp2_with fail
              refine (c3 _).mono ?_
              rintro e' w5 ⟨rfl, rfl⟩
              go_wp2_with fail
              refine (c2 _).mono ?_
              rintro e' w2 ⟨rfl, rfl⟩
              go_wp2_with fail
              go_ret3
              exact ScanP.err H.out (hb.alloc hb.size _)
          · rw [h1] at c2
            unfold t4 at c2
            generalize hcn : c.toNat = cn at *
            clear hcn
            obtain ⟨en, hen⟩ : ∃ en, j + k = en := ⟨_, rfl⟩
            obtain ⟨E1, E2⟩ := hI.out.next hd h4 h2 h3
            have hki : (j : Int) + (k : Int) = (en : Int) := by omega
            rw [hen] at E1 E2 h3 c2
            have cs := fun W => skip_any l en W (by omega) h3
            have hs2 := sk_length false (l.drop en)
            rw [List.length_drop] at hs2
            obtain ⟨j2, hj2⟩ : ∃ j2, l.length - (sk false (l.drop en)).length = j2 := ⟨_, rfl⟩
            rw [hj2] at E1 E2 cs
            have hj3 : j2 ≤ l.length := by omega
            have hbs := hb.size
            have hjen : j ≤ en := by omega
            have E := Lib.hid E1
            clear hI hd h1 h4 hj2 hs2 E1
            go_wp2_with fail
            refine (c1 _).mono ?_
            rintro e' w' ⟨rfl, rfl⟩
            go_wp2_with fail
            refine (c3 _).mono ?_
            rintro e' w5 ⟨rfl, rfl⟩
            go_wp2_with fail
            refine (c2 _).mono ?_
            rintro e' w2 ⟨rfl, rfl⟩
            go_wp2_with (at_builtin; refine wpList_pushT rfl (.tmp 88) (.tmp 90) rfl w.heap.size u5 ts ⟨2, [], n, j⟩ _ 1 rfl rfl (ho.other (two_ _ _)) cells4 (by omega) (by simp; omega) ?_; intro v' w3 ho' hg')
            refine (cs _).mono ?_
            rintro e' w4 ⟨rfl, rfl⟩
            go_wp2_with fail
            go_roundw
            case rel => exact ⟨j2, ts ++ [⟨2, [], n, j⟩], hj3, by simp; omega, by go_num, ho', (Below.next hb (two_ _ _)).grown hg' (by simp; omega) (fun q hq => (ho.lt q hq).1), E⟩
            case measure => simp [intOf]; omega
      · rw [hL] at c1
        have c2 := fun W => name_any l j W (by omega) hj
        rcases name_tok hd hL with ⟨e, x, wh, h1, h2, h3, h4⟩ | ⟨k, t, h1, h2, h3, h4, h5⟩
        · obtain ⟨h4, h6, h7⟩ : _ ∧ _ ∧ _ := h4
          rw [h1] at c2
          unfold t3 at c2
          generalize c.toNat = n at *
          have H := Lib.hid (show R = .error (x, wh) by rw [hI.out.err hd h4, show j + (wh - j) = wh by omega])
          clear hI hd h1 h4
          rcases h2 with rfl | rfl
          all_goals
            go_wp2_with fail
            refine (c1 _).mono ?_
            rintro e' w' ⟨rfl, rfl⟩
            go_wp2_with fail
            refine (c2 _).mono ?_
            rintro e' w2 ⟨rfl, rfl⟩
            go_wp2_with fail
            go_ret3
            exact ScanP.err H.out (hb.alloc hb.size _)
        · rw [h1] at c2
          unfold t3 at c2
          have hsl : (bs l).extract j (j + k) = bs t := by rw [bs_slice, h5]
          generalize c.toNat = n at *
          obtain ⟨en, hen⟩ : ∃ en, j + k = en := ⟨_, rfl⟩
          obtain ⟨E1, E2⟩ := hI.out.next hd h4 h2 h3
          have hki : (j : Int) + (k : Int) = (en : Int) := by omega
          rw [hen] at E1 E2 h3 hsl c2
          have cs := fun W => skip_any l en W (by omega) h3
          have hs2 := sk_length false (l.drop en)
          rw [List.length_drop] at hs2
          obtain ⟨j2, hj2⟩ : ∃ j2, l.length - (sk false (l.drop en)).length = j2 := ⟨_, rfl⟩
          rw [hj2] at E1 E2 cs
          have hj3 : j2 ≤ l.length := by omega
          have hbs := hb.size
          have hjen : j ≤ en := by omega
          have E := Lib.hid E1
          clear hI hd h1 h4 hj2 hs2 E1
          go_wp2_with fail
          refine (c1 _).mono ?_
          rintro e' w' ⟨rfl, rfl⟩
          go_wp2_with fail
          refine (c2 _).mono ?_
          rintro e' w2 ⟨rfl, rfl⟩
          go_wp2_with (at_builtin; refine wpList_pushT rfl (.tmp 88) (.tmp 90) rfl w.heap.size u5 ts ⟨1, t, 0, j⟩ _ 1 rfl rfl (ho.other (two_ _ _)) cells4 (by omega) (by simp; omega) ?_; intro v' w3 ho' hg')
          refine (cs _).mono ?_
          rintro e' w4 ⟨rfl, rfl⟩
          go_wp2_with fail
          go_roundw
          case rel => exact ⟨j2, ts ++ [⟨1, t, 0, j⟩], hj3, by simp; omega, by go_num, ho', (Below.next hb (two_ _ _)).grown hg' (by simp; omega) (fun q hq => (ho.lt q hq).1), E⟩
          case measure => simp [intOf]; omega
    · obtain rfl : j = l.length := by omega
      have H := Lib.hid hI.out.done
      have hbs := hb.size
      clear hI
      go_wp2_with (at_builtin; refine wpList_pushT rfl (.tmp 95) (.tmp 99) rfl w.heap.size u5 ts ⟨0, [], 0, l.length⟩ _ 1 rfl rfl (ho.other (one _ _)) cells4a (by omega) (by simp; omega) ?_; intro v' w3 ho' hg')
      go_ret3
      exact ScanP.ok H.out ((hb.alloc hbs _).grown hg' (by simp; omega) (fun q hq => (ho.lt q hq).1)) ho' 
end Go.Proofs.YtgifienjfaclmaaGreatDoor
