/-
  The reference's Print. No conditions but Go's own bounds; at most 60 tokens.
-/
import Derived.Test.YtgifienjfaclmaaDoorLl
namespace Go.Proofs.YtgifienjfaclmaaDoor
open Go.RowKit
def Tv.ok (t : Tv) : Prop := t.text.length ≤ 9223372036854775807 ∧ -9223372036854775808 ≤ t.num ∧ t.num ≤ 9223372036854775807
/-- The elements of the slice at A are the tokens q. -/
def Tvs (w : World) (A : Option Addr) (n : Nat) (q : Nat → Tv) : Prop := n = 0 ∨ ∃ a : Addr, A = some a ∧ a.block < w.heap.size ∧ ∀ i, i < n → (q i).ok ∧
  w.cell? ((a.add (i * 4)).add 0) = some (.int .i64 (q i).kind) ∧ w.cell? ((a.add (i * 4)).add 1) = some (.string (bs (q i).text)) ∧ w.cell? ((a.add (i * 4)).add 2) = some (.int .i64 (q i).num) ∧ w.cell? ((a.add (i * 4)).add 3) = some (.int .i64 (q i).at_)
theorem add_block (a : Addr) (i : Nat) : (a.add i).block = a.block := by unfold Addr.add; split <;> rfl
/-- The first i tokens. -/
def tks (q : Nat → Tv) (i : Nat) : List Tk := (List.range i).map fun j => (q j).tk
theorem tks_succ (q : Nat → Tv) (i : Nat) : tks q (i + 1) = tks q i ++ [(q i).tk] := by simp [tks, List.range_succ]
theorem prs_snoc (s : List UInt8) (l : List Tk) (t : Tk) : prs s (l ++ [t]) = if okT t then (if prs s l = [] then [] else prs s l ++ [32]) ++ pr t else prs s l := by
  induction l generalizing s with
  | nil => simp only [List.nil_append, prs]; rfl
  | cons u l ih =>
    rw [List.cons_append, prs, prs]
    by_cases h : okT u = true
    · rw [if_pos h, if_pos h, ih]
    · rw [if_neg h, if_neg h, ih]
theorem isN_len {l : List UInt8} (h : isN l = true) : l.length ≤ 16 := by
  unfold isN at h
  simp only [Bool.and_eq_true, decide_eq_true_eq] at h
  omega
theorem oneM_len {l : List UInt8} (h : oneM l = true) : l.length = 1 := by
  match l, h with
  | [c], _ => rfl
theorem dec_len (n : Int) (h1 : -9223372036854775808 ≤ n) (h2 : n ≤ 9223372036854775807) : (dec n).length ≤ 21 := by
  have := dg_len n.natAbs 19 (by omega)
  unfold dec
  split
  · simp; omega
  · omega
theorem quo_len (l : List UInt8) : (quo l).length ≤ 2 * l.length + 2 := by
  have := esc_length l
  simp [quo]
  omega
/-- What a valid token is. -/
theorem tv_cases (t : Tv) (h : okT t.tk = true) : (t.kind = 1 ∧ t.text.length ≤ 16 ∧ pr t.tk = t.text) ∨ (t.kind = 2 ∧ pr t.tk = dec t.num) ∨ (t.kind = 3 ∧ t.text.length ≤ 200 ∧ pr t.tk = quo t.text) ∨ (t.kind = 4 ∧ t.text.length ≤ 16 ∧ pr t.tk = t.text) := by
  obtain ⟨k, t, n, a⟩ := t
  by_cases h1 : k = 1
  · subst h1
    rw [okT1, Bool.and_eq_true] at h
    exact .inl ⟨rfl, isN_len h.1, rfl⟩
  by_cases h2 : k = 2
  · subst h2
    exact .inr (.inl ⟨rfl, rfl⟩)
  by_cases h3 : k = 3
  · subst h3
    rw [okT3] at h
    simp only [Bool.and_eq_true, decide_eq_true_eq] at h
    exact .inr (.inr (.inl ⟨rfl, h.1.2, rfl⟩))
  by_cases h4 : k = 4
  · subst h4
    rw [okT4, Bool.and_eq_true] at h
    exact .inr (.inr (.inr ⟨rfl, by have := oneM_len h.1; show t.length ≤ 16; omega, rfl⟩))
  rw [okT0 k t n a h1 h2 h3 h4] at h
  cases h
theorem pr_len (t : Tv) (ho : t.ok) (h : okT t.tk = true) : (pr t.tk).length ≤ 402 := by
  rcases tv_cases t h with ⟨_, h1, h2⟩ | ⟨_, h2⟩ | ⟨_, h1, h2⟩ | ⟨_, h1, h2⟩ <;> rw [h2]
  · omega
  · have := dec_len t.num ho.2.1 ho.2.2; omega
  · have := quo_len t.text; omega
  · omega
set_option maxRecDepth 100000 in
set_option maxHeartbeats 2000000 in
theorem print_any (A : Option Addr) (n c : Nat) (q : Nat → Tv) (w : World) (hn : n ≤ 60) (hA : Tvs w A n q) :
    Calls Tryd.prog 12 #[.slice A n c] w (Ib (.string (bs (prs [] (tks q n)))) w) := by
  have HA := Lib.hid hA
  clear hA
  have hn0 : (⟨#[]⟩ : ByteArray) = bs [] := rfl
  have hn1 : (⟨#[32]⟩ : ByteArray) = bs [32] := rfl
  have hs1 : (bs [32]).size = 1 := rfl
  go_enter Tryd.func12, Tryd.ntmps12
  go_wp2_with fail
  go_loopw [3, 4] (fun u v wr => ∃ (i : Nat) (s : List UInt8), i ≤ n ∧ v = .int .i64 (i : Int) ∧ u = .string (bs s) ∧ Below w.heap.size w wr ∧ s.length ≤ 403 * i ∧ Hid (s = prs [] (tks q i))) (fun _ v _ => n - (intOf v).toNat)
  case atStart => exact ⟨0, [], by omega, rfl, rfl, Below.refl _ _, by simp, Lib.hid rfl⟩
  case round =>
    obtain ⟨i, s, hi, rfl, rfl, hb, hsl, hI⟩ := hrel
    have hse : (bs s).toList.isEmpty = (s == []) := by rw [toList_bs]; cases s <;> rfl
    clear hn0
    have hss : (bs s).size = s.length := rfl
    by_cases hin : i < n
    · rcases HA.out with h0 | ⟨a, rfl, hab, hc⟩
      · omega
      obtain ⟨ok, c0, c1, c2, c3⟩ := hc i hin
      have ad : ∀ j, ((a.add (i * 4)).add j).block = a.block := fun j => by rw [add_block, add_block]
      replace c0 := (hb.cell (p := (a.add (i * 4)).add 0) (by rw [ad]; exact hab)).trans c0
      replace c1 := (hb.cell (p := (a.add (i * 4)).add 1) (by rw [ad]; exact hab)).trans c1
      replace c2 := (hb.cell (p := (a.add (i * 4)).add 2) (by rw [ad]; exact hab)).trans c2
      replace c3 := (hb.cell (p := (a.add (i * 4)).add 3) (by rw [ad]; exact hab)).trans c3
      have hS := prs_snoc [] (tks q i) (q i).tk
      rw [← tks_succ, ← hI.out] at hS
      have hpl := pr_len (q i) ok
      have htc := tv_cases (q i)
      generalize q i = x at c0 c1 c2 c3 ok hS hpl htc
      obtain ⟨K, T, N, P⟩ := x
      have c0 : wr.cell? (a.add (i * 4)) = some (.int .i64 K) := c0
      have c1 : wr.cell? ⟨(a.add (i * 4)).block, (a.add (i * 4)).off + 1, none⟩ = some (.string (bs T)) := c1
      have c2 : wr.cell? ⟨(a.add (i * 4)).block, (a.add (i * 4)).off + 2, none⟩ = some (.int .i64 N) := c2
      have c3 : wr.cell? ⟨(a.add (i * 4)).block, (a.add (i * 4)).off + 3, none⟩ = some (.int .i64 P) := c3
      have hab2 : (a.add (i * 4)).block < wr.heap.size := by rw [add_block]; have := hb.size; omega
      obtain ⟨f, hf⟩ : ∃ f, i + 1 = f := ⟨_, rfl⟩
      have l11 : (i : Int) + 1 = (f : Int) := by omega
      rw [hf] at hS
      have cV := fun W => valid_any K T N P W ok.1
      obtain ⟨b, hbk⟩ : ∃ b, okT (Tv.tk ⟨K, T, N, P⟩) = b := ⟨_, rfl⟩
      rw [hbk] at cV hS hpl htc
      clear hc hI HA ad hbk
      cases b
      · rw [if_neg (by simp)] at hS
        have H := Lib.hid hS.symm
        clear hS hpl htc
        go_wp2_with fail
        refine (cV _).mono ?_
        rintro e w2 ⟨rfl, h2⟩
        have hb2 := Below.next hb h2
        go_wp2_with fail
        go_roundw
        case rel => exact ⟨f, s, by omega, rfl, rfl, hb2, by omega, H⟩
        case measure => simp [intOf]; omega
      · rw [if_pos rfl] at hS
        replace hpl := hpl rfl
        replace htc := htc rfl
        have hts : (bs T).size = T.length := rfl
        obtain ⟨b2, hb2⟩ : ∃ b, (s == []) = b := ⟨_, rfl⟩
        rw [hb2] at hse
        have G : ∃ s1, (if s = [] then [] else s ++ [32]) = s1 ∧ s1.length ≤ s.length + 1 ∧ (b2 = true → bs s1 = bs s) ∧ (b2 = false → bs s1 = bs s ++ bs [32]) := by
          cases b2
          · have h0 : s ≠ [] := by simpa using hb2
            rw [if_neg h0]
            exact ⟨_, rfl, by simp, (fun h => by cases h), (fun _ => by rw [bs_append])⟩
          · have h0 : s = [] := by simpa using hb2
            rw [if_pos h0, h0]
            exact ⟨_, rfl, by simp, (fun _ => rfl), (fun h => by cases h)⟩
        obtain ⟨s1, g1, g2, g3a, g3b⟩ := G
        rw [g1] at hS
        have hs1s : (bs s1).size = s1.length := rfl
        clear g1 hb2
        obtain ⟨R, hR⟩ : ∃ R, prs [] (tks q f) = R := ⟨_, rfl⟩
        have HR := Lib.hid hR
        rw [hR] at hS
        clear hR
        rcases htc with ⟨rfl, h16, hp⟩ | ⟨rfl, hp⟩ | ⟨rfl, h16, hp⟩ | ⟨rfl, h16, hp⟩
        all_goals
          rw [hp] at hpl hS
          have hS := hS.symm
          clear hp
        · have k1 : bs s1 ++ bs T = bs R := by rw [bs_append, hS]
          have hrl : R.length ≤ 403 * f := by rw [← hS, List.length_append]; omega
          have H := Lib.hid (HR.out.symm)
          have HS := Lib.hid hS
          clear hS hpl HR
          cases b2
          all_goals
            first | have g3 := g3a rfl | have g3 := g3b rfl
            rw [g3] at k1 hs1s
            have KS := Lib.hid k1
            clear g3 g3a g3b
            go_wp2_with fail
            refine (cV _).mono ?_
            rintro e w2 ⟨rfl, h2⟩
            have hb2 := Below.next hb h2
            replace c0 := (h2.cell (p := a.add (i * 4)) hab2).trans c0
            replace c1 := (h2.cell (p := ⟨(a.add (i * 4)).block, (a.add (i * 4)).off + 1, none⟩) hab2).trans c1
            replace c2 := (h2.cell (p := ⟨(a.add (i * 4)).block, (a.add (i * 4)).off + 2, none⟩) hab2).trans c2
            clear cV
            go_wp2_with fail
            go_roundw
            case rel => exact ⟨f, R, by omega, rfl, by first | rfl | rw [KS.out] | rw [HS.out], hb2, hrl, H⟩
            case measure => simp [intOf]; omega
        · have k1 : bs s1 ++ bs (dec N) = bs R := by rw [bs_append, hS]
          have hrl : R.length ≤ 403 * f := by rw [← hS, List.length_append]; omega
          have H := Lib.hid (HR.out.symm)
          have HS := Lib.hid hS
          have hds : (bs (dec N)).size = (dec N).length := rfl
          have hdl := dec_len N ok.2.1 ok.2.2
          have cX := fun W => decimal_any N W ok.2.1 ok.2.2
          clear hS hpl HR
          cases b2
          all_goals
            first | have g3 := g3a rfl | have g3 := g3b rfl
            rw [g3] at k1 hs1s
            have KS := Lib.hid k1
            clear g3 g3a g3b
            go_wp2_with fail
            refine (cV _).mono ?_
            rintro e w2 ⟨rfl, h2⟩
            have hb2 := Below.next hb h2
            replace c0 := (h2.cell (p := a.add (i * 4)) hab2).trans c0
            replace c1 := (h2.cell (p := ⟨(a.add (i * 4)).block, (a.add (i * 4)).off + 1, none⟩) hab2).trans c1
            replace c2 := (h2.cell (p := ⟨(a.add (i * 4)).block, (a.add (i * 4)).off + 2, none⟩) hab2).trans c2
            clear cV
            go_wp2_with fail
            refine (cX _).mono ?_
            rintro e w3 ⟨rfl, rfl⟩
            go_wp2_with fail
            go_roundw
            case rel => exact ⟨f, R, by omega, rfl, by first | rfl | rw [KS.out] | rw [HS.out], hb2, hrl, H⟩
            case measure => simp [intOf]; omega
        · have k1 : bs s1 ++ bs (quo T) = bs R := by rw [bs_append, hS]
          have hrl : R.length ≤ 403 * f := by rw [← hS, List.length_append]; omega
          have H := Lib.hid (HR.out.symm)
          have HS := Lib.hid hS
          have hds : (bs (quo T)).size = (quo T).length := rfl
          have h16 : T.length ≤ 200 := h16
          have hdl := quo_len T
          have cX := fun W => quotedR_any T W (by omega)
          clear hS hpl HR
          cases b2
          all_goals
            first | have g3 := g3a rfl | have g3 := g3b rfl
            rw [g3] at k1 hs1s
            have KS := Lib.hid k1
            clear g3 g3a g3b
            go_wp2_with fail
            refine (cV _).mono ?_
            rintro e w2 ⟨rfl, h2⟩
            have hb2 := Below.next hb h2
            replace c0 := (h2.cell (p := a.add (i * 4)) hab2).trans c0
            replace c1 := (h2.cell (p := ⟨(a.add (i * 4)).block, (a.add (i * 4)).off + 1, none⟩) hab2).trans c1
            replace c2 := (h2.cell (p := ⟨(a.add (i * 4)).block, (a.add (i * 4)).off + 2, none⟩) hab2).trans c2
            clear cV
            go_wp2_with fail
            refine (cX _).mono ?_
            rintro e w3 ⟨rfl, rfl⟩
            go_wp2_with fail
            go_roundw
            case rel => exact ⟨f, R, by omega, rfl, by first | rfl | rw [KS.out] | rw [HS.out], hb2, hrl, H⟩
            case measure => simp [intOf]; omega
        · have k1 : bs s1 ++ bs T = bs R := by rw [bs_append, hS]
          have hrl : R.length ≤ 403 * f := by rw [← hS, List.length_append]; omega
          have H := Lib.hid (HR.out.symm)
          have HS := Lib.hid hS
          clear hS hpl HR
          cases b2
          all_goals
            first | have g3 := g3a rfl | have g3 := g3b rfl
            rw [g3] at k1 hs1s
            have KS := Lib.hid k1
            clear g3 g3a g3b
            go_wp2_with fail
            refine (cV _).mono ?_
            rintro e w2 ⟨rfl, h2⟩
            have hb2 := Below.next hb h2
            replace c0 := (h2.cell (p := a.add (i * 4)) hab2).trans c0
            replace c1 := (h2.cell (p := ⟨(a.add (i * 4)).block, (a.add (i * 4)).off + 1, none⟩) hab2).trans c1
            replace c2 := (h2.cell (p := ⟨(a.add (i * 4)).block, (a.add (i * 4)).off + 2, none⟩) hab2).trans c2
            clear cV
            go_wp2_with fail
            go_roundw
            case rel => exact ⟨f, R, by omega, rfl, by first | rfl | rw [KS.out] | rw [HS.out], hb2, hrl, H⟩
            case measure => simp [intOf]; omega
    · obtain rfl : i = n := by omega
      have H := hI.out
      clear HA hI
      go_wp2_with fail
      go_ret
      exact ⟨by rw [← H]; rfl, hb⟩
end Go.Proofs.YtgifienjfaclmaaDoor
