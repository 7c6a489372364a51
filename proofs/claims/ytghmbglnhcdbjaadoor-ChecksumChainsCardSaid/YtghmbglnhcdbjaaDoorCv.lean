/-
  The law of chains: it returns true. The tables of utf8 as the program laid them; the strings' lengths below 2^47.
-/
import Derived.Test.YtghmbglnhcdbjaaDoorCu
import Derived.Test.YtghmbglnhcdbjaaDoorCh
namespace Go.Proofs.YtghmbglnhcdbjaaDoor
open Go.RowKit
/-- Strings as cells. -/
def scells (l : List (List UInt8)) : List Value := l.map fun s => .string (bs s)
/-- The slice v owns the strings l. -/
def Ost (B : Nat) (w : World) (v : Value) (l : List (List UInt8)) : Prop := w.ownsRow B 9 1 v l.length (scells l)
theorem Ost.nil (B : Nat) (w : World) : Ost B w (.slice none 0 0) [] := World.ownsRow_nil _ _ _ _
theorem Ost.other {B : Nat} {w w' : World} {v : Value} {l : List (List UInt8)} (h : Ost B w v l) (hb : Below w.heap.size w w') : Ost B w' v l := by
  unfold Ost World.ownsRow at *
  refine ⟨h.1, ?_⟩
  rcases h.2 with h1 | ⟨g, cap, cur, h1, h2, h3, h4⟩
  · exact .inl h1
  · refine .inr ⟨g, cap, cur, h1, h2, ?_, h4⟩
    rw [hb.block g (Array.getElem?_eq_some_iff.1 h3).1]
    exact h3
theorem infoS : (Tryd.prog.info? 9).map (fun i => (i.zero, i.size, i.bytes)) = some (some (.string ⟨#[]⟩), 1, 16) := by kernel_rfl
theorem wpList_push2 {w : World} {ops : Array Oper} {rest : List Oper} {o : Oper} {a : Act} {Q : Exit → Act → World → Prop} (hgd : o.guard = none) (s x : Operand)
    (ho : o.op = .call { callee := .builtin .append, args := #[s, x], argTypes := #[40, 40] }) (B : Nat) (v : Value) (l : List (List UInt8)) (p q : List UInt8) (ad : Addr) (d : Nat) (hs : a.eval s = v) (hx : a.eval x = .slice (some ad) 2 d)
    (hown : Ost B w v l) (hc : w.cell? ad = some (.string (bs p))) (hc2 : w.cell? (ad.add 1) = some (.string (bs q))) (hm : l.length ≤ 100000) (hB : B ≤ w.heap.size)
    (h : ∀ v' w', Ost B w' v' (l ++ [p, q]) → w.grownBy w' v.ownBlock → wpList Tryd.prog ops Q rest (a.put o.dst v') w') : wpList Tryd.prog ops Q (o :: rest) a w := by
  obtain ⟨i, hi, hz, hs5, hby⟩ := info_parts infoS
  refine wpList_append_own_at w hgd s x 40 ho B 9 i _ 1 16 Tryd.underlying40 hi hz hs5 hby rfl (by omega) v l.length (scells l) hs hown ad 2 d [.string (bs p), .string (bs q)] hx rfl
    (by intro j u hj
        match j, hj with
        | 0, hj => simp at hj; subst hj; rw [Addr.add_zero']; exact hc
        | 1, hj => simp at hj; subst hj; exact hc2
        | j + 2, hj => simp at hj) (by simp [Value.oneCell']) (by simp only [maxLen]; omega) (by omega) hB ?_
  intro v' w' h1 h2 _ _
  refine h v' w' ?_ h2
  unfold Ost
  rw [show scells (l ++ [p, q]) = scells l ++ [.string (bs p), .string (bs q)] by simp [scells], List.length_append]
  exact h1
/-- A slice of two values that lie in memory of their own, behind W0. -/
def Fact.two (W0 : World) (z y : Value) : Fact := ⟨fun v w => ∃ b, v = .slice (some ⟨b, 0, none⟩) 2 2 ∧ w.cell? ⟨b, 0, none⟩ = some z ∧ w.cell? ⟨b, 1, none⟩ = some y ∧ b < w.heap.size ∧ Below W0.heap.size W0 w, fun _ _ _ ⟨b, h1, h2, h5, h3, h4⟩ hb => ⟨b, h1, (hb.cell (p := ⟨b, 0, none⟩) h3).trans h2, (hb.cell (p := ⟨b, 1, none⟩) h3).trans h5, Nat.lt_of_lt_of_le h3 hb.size, upG h4 hb⟩⟩
theorem at_build2 {ops : Array Oper} {Q : Exit → Act → World → Prop} {F : Nat → Fact} {base : List Nat} {N : Nat} {o : Oper} {W0 : World} (t s d : Nat) (z y : Value) (hd : o.dst = some d) (hg : Gd W0 ops F base N o) (hk : known ops base o t = true) (hk2 : known ops base o s = true) (hv : F t = Fact.at_ W0 z) (hv2 : F s = Fact.at_ W0 y) (hF : F d = Fact.two W0 z y)
    (h : ∀ (a : Act) (w : World), a.eval (.tmp t) = z → a.eval (.tmp s) = y → ∃ ty, (execOp a.eval o).run Tryd.prog w = .ok (.value (.slice (some ⟨w.heap.size, 0, none⟩) 2 2)) (w.alloc (Obj.cells #[z, y] ty))) : Ob ops Q F base N o :=
  at_val hg fun a w hf => by
    have h1 := hf t hk
    rw [hv] at h1
    have h3 := hf s hk2
    rw [hv2] at h3
    obtain ⟨ty, h2⟩ := h a w h1.1 h3.1
    refine ⟨_, _, h2, oneG _ _, fun s hs => ?_⟩
    rw [hd] at hs
    injection hs with hs
    subst hs
    rw [hF]
    exact ⟨_, rfl, by rw [World.cell?]; simp only [heap_alloc_new]; rfl, by rw [World.cell?]; simp only [heap_alloc_new]; rfl, by simp, upG h1.2 (oneG _ _)⟩
theorem add_block (a : Addr) (i : Nat) : (a.add i).block = a.block := by unfold Addr.add; split <;> rfl
/-- The argument's elements are these strings. -/
def Sg (w : World) (ad : Addr) (A : List (List UInt8)) : Prop := ad.block < w.heap.size ∧ ∀ i (h : i < A.length), w.cell? (ad.add i) = some (.string (bs A[i]))
theorem Sg.below {w w' : World} {ad : Addr} {A : List (List UInt8)} (h : Sg w ad A) (hb : Below w.heap.size w w') : Sg w' ad A :=
  ⟨Nat.lt_of_lt_of_le h.1 hb.size, fun i hi => (hb.cell (p := ad.add i) (by rw [add_block]; exact h.1)).trans (h.2 i hi)⟩
theorem hsh_mem (A : List (List UInt8)) : ∀ (B : List (List UInt8)) (x y : Nat), ∀ s ∈ hsh x y A B, ∃ z t, (t ∈ A ∨ t ∈ B) ∧ s = lk z t := by
  induction A with
  | nil => intro B x y s hs; simp [hsh] at hs
  | cons a A ih =>
    intro B x y s hs
    cases B with
    | nil => simp [hsh] at hs
    | cons b B =>
      rcases List.mem_cons.1 hs with rfl | hs
      · exact ⟨x, a, .inl (List.mem_cons_self ..), rfl⟩
      · rcases List.mem_cons.1 hs with rfl | hs
        · exact ⟨y, b, .inr (List.mem_cons_self ..), rfl⟩
        · obtain ⟨z, t, h, e⟩ := ih _ _ _ s hs
          exact ⟨z, t, h.imp (List.mem_cons_of_mem _) (List.mem_cons_of_mem _), e⟩
theorem Ost.open_ {B : Nat} {w : World} {v : Value} {l : List (List UInt8)} (h : Ost B w v l) (h0 : l ≠ []) : ∃ g cap, v = .slice (some ⟨g, 0, none⟩) l.length cap ∧ Ss w g l := by
  have h1 := h
  rcases h.2 with ⟨_, h2⟩ | ⟨g, cap, cur, hv, h2, h3, h4, h5, h6, h7⟩
  · exact absurd (List.eq_nil_of_length_eq_zero h2) h0
  · subst hv
    refine ⟨g, cap, rfl, (Array.getElem?_eq_some_iff.1 h3).1, fun i hi => ?_⟩
    have := World.ownsRow.cellAt h1 i (by omega)
    rw [this]
    simp [scells, List.getElem?_eq_getElem hi]
set_option maxRecDepth 100000 in
set_option maxHeartbeats 4000000 in
theorem chains_core (p : Nat) (pa pb : Option Addr) (na ca nb cb n : Nat) (A B : List (List UInt8)) (w : World) (hp : p ≤ 18446744073709551615) (hA : A.length = n) (hB : B.length = n) (h1 : n ≤ na) (h2 : n ≤ nb) (h3 : n ≤ 40) (hm : n = na ∨ n = nb ∨ n = 40) (hna : na ≤ 9223372036854775807) (hnb : nb ≤ 9223372036854775807)
    (SA0 : 0 < n → ∃ ad, pa = some ad ∧ Sg w ad A) (SB0 : 0 < n → ∃ ad, pb = some ad ∧ Sg w ad B) (lA : ∀ s ∈ A, s.length ≤ 140737488355328) (lB : ∀ s ∈ B, s.length ≤ 140737488355328) (hT : Tabs w) :
    Calls Tryd.prog 8 #[.int .u64 (p : Int), .slice pa na ca, .slice pb nb cb] w (Ib (.bool true) w) := by
  obtain ⟨n1, hn1⟩ : ∃ n1, (if nb < na then nb else na) = n1 := ⟨_, rfl⟩
  have e1 : (if nb < na then (nb : Int) else (na : Int)) = (n1 : Int) := by rw [← hn1]; split <;> rfl
  have e2 : (if (40 : Int) < (n1 : Int) then (40 : Int) else (n1 : Int)) = (n : Int) := by
    rw [← hn1]
    split <;> split at * <;> omega
  have e3 : (if 40 < n1 then (40 : Int) else (n1 : Int)) = (n : Int) := by
    rw [← hn1]
    split <;> split at * <;> omega
  clear hn1 hm
  go_enter Tryd.func8, Tryd.ntmps8
  go_wp2_with fail
  clear e1 e2 e3
  go_loopw [8, 9, 10, 11, 12] (fun u8 u9 u10 u11 i wr => ∃ k x y : Nat, k ≤ n ∧ i = .int .i64 (k : Int) ∧ u8 = .int .u64 (x : Int) ∧ u9 = .int .u64 (y : Int) ∧ x ≤ 18446744073709551615 ∧ y ≤ 18446744073709551615 ∧ u10 = .bool (decide (A.take k = B.take k)) ∧ Ost w.heap.size wr u11 (hsh p p (A.take k) (B.take k)) ∧ Below w.heap.size w wr ∧ Hid (x = chn p (A.take k) ∧ y = chn p (B.take k))) (fun _ _ _ _ i _ => n - (intOf i).toNat)
  case atStart => exact ⟨0, p, p, by omega, rfl, rfl, rfl, hp, hp, rfl, Ost.nil _ _, Below.refl _ _, Lib.hid ⟨rfl, rfl⟩⟩
  case round =>
    obtain ⟨k, x, y, hk, rfl, rfl, rfl, hx, hy, rfl, ho, hbw, hI⟩ := hrel
    by_cases hlt : k < n
    · obtain ⟨ada, rfl, SA⟩ := SA0 (by omega)
      obtain ⟨adb, rfl, SB⟩ := SB0 (by omega)
      have SA1 := SA.below hbw
      have SB1 := SB.below hbw
      have kA : k < A.length := by omega
      have kB : k < B.length := by omega
      have kna : k < na := by omega
      have knb : k < nb := by omega
      have hla : (ada.add k).block < wr.heap.size := by rw [add_block]; exact SA1.1
      have hlb : (adb.add k).block < wr.heap.size := by rw [add_block]; exact SB1.1
      have hla0 : (ada.add k).block < w.heap.size := by rw [add_block]; exact SA.1
      have hlb0 : (adb.add k).block < w.heap.size := by rw [add_block]; exact SB.1
      have cA0 := SA.2 k kA
      have cB0 := SB.2 k kB
      have cA := SA1.2 k kA
      have cB := SB1.2 k kB
      have ls := lA _ (List.getElem_mem kA)
      have lt := lB _ (List.getElem_mem kB)
      have tA : A.take (k + 1) = A.take k ++ [A[k]] := List.take_succ_eq_append_getElem kA
      have tB : B.take (k + 1) = B.take k ++ [B[k]] := List.take_succ_eq_append_getElem kB
      have tl : (A.take k).length = (B.take k).length := by rw [List.length_take, List.length_take]; omega
      have hh := hsh_snoc p p (A.take k) (B.take k) A[k] B[k] tl
      have nA := chn_snoc p (A.take k) A[k]
      have nB := chn_snoc p (B.take k) B[k]
      have hl2 : (hsh p p (A.take k) (B.take k)).length ≤ 80 := by rw [hsh_length _ _ _ _ tl, List.length_take]; omega
      have hsm : (A.take (k + 1) = B.take (k + 1)) = (A.take k = B.take k ∧ A[k] = B[k]) := by
        rw [tA, tB]
        refine propext ⟨fun h => ?_, fun ⟨h5, h6⟩ => by rw [h5, h6]⟩
        obtain ⟨h5, h6⟩ := List.append_inj h tl
        exact ⟨h5, by simpa using h6⟩
      rw [← tA, ← tB] at hh
      rw [← tA] at nA
      rw [← tB] at nB
      rw [← hI.out.1] at nA hh
      rw [← hI.out.2] at nB hh
      obtain ⟨s, hs⟩ : ∃ s, A[k] = s := ⟨_, rfl⟩
      obtain ⟨t, ht⟩ : ∃ t, B[k] = t := ⟨_, rfl⟩
      rw [hs] at cA cA0 ls hh nA hsm
      rw [ht] at cB cB0 lt hh nB hsm
      have q1 : ∀ w, Below wr.heap.size wr w → _ := fun w _ => link_any x s w hx (by omega)
      have q2 : ∀ w, Below wr.heap.size wr w → _ := fun w _ => link_any y t w hy (by omega)
      have q3 : ∀ w, Tabs w → _ := fun w hb => chain_any x s w (by omega) hb
      have q4 : ∀ w, Tabs w → _ := fun w hb => chain_any y t w (by omega) hb
      have q5 := fun w => refChain_any x s w hx (by omega)
      have q6 := fun w => refChain_any y t w hy (by omega)
      have u1b := hash_lt (lk x s)
      have u2b := hash_lt (lk y t)
      obtain ⟨m1, hm1⟩ : ∃ m, lk x s = m := ⟨_, rfl⟩
      obtain ⟨m2, hm2⟩ : ∃ m, lk y t = m := ⟨_, rfl⟩
      rw [hm1] at q1 q3 q5 hh nA u1b
      rw [hm2] at q2 q4 q6 hh nB u2b
      obtain ⟨u1, hu1⟩ : ∃ m, hash m1 = m := ⟨_, rfl⟩
      obtain ⟨u2, hu2⟩ : ∃ m, hash m2 = m := ⟨_, rfl⟩
      rw [hu1] at q3 q5 nA u1b
      rw [hu2] at q4 q6 nB u2b
      obtain ⟨eqb, he⟩ : ∃ b, ((bs s).toList == (bs t).toList) = b := ⟨_, rfl⟩
      obtain ⟨sm, hsm0⟩ : ∃ b, decide (A.take k = B.take k) = b := ⟨_, rfl⟩
      have hsm1 : decide (A.take (k + 1) = B.take (k + 1)) = (sm && eqb) := by
        rw [← hsm0, ← he, toList_bs, toList_bs]
        simp only [hsm, Bool.decide_and]
        congr 1
        by_cases h : s = t <;> simp [h]
      rw [hsm0]
      have HI := Lib.hid (And.intro nA.symm nB.symm)
      have HH := Lib.hid hh
      have HS := Lib.hid hsm1
      generalize hsh p p (A.take k) (B.take k) = H at ho hh HH hl2
      clear hs ht hm1 hm2 hu1 hu2 hh nA nB hsm hsm0 hsm1 tA tB tl hI lA lB SA0 SB0 SA SB SA1 SB1
      go_wp2_with fail
      refine wp_region_seqN (by kernel_rfl) (FF [(1, Fact.at_ wr (.slice (some ada) na ca)), (2, Fact.at_ wr (.slice (some adb) nb cb)), (8, Fact.at_ wr (.int .u64 (x : Int))), (9, Fact.at_ wr (.int .u64 (y : Int))), (12, Fact.at_ wr (.int .i64 (k : Int))), (11, Fact.at_ wr u11), (27, Fact.at_ wr u11), (28, Fact.at_ wr (.int .u64 (x : Int))), (29, Fact.at_ wr (.slice (some ada) na ca)), (30, Fact.at_ wr (.int .i64 (k : Int))), (31, Fact.at_ wr (.pointer (some (ada.add k)))), (32, Fact.at_ wr (.string (bs s))), (33, Fact.at_ wr (.string (bs m1))), (34, Fact.at_ wr (.int .u64 (y : Int))), (35, Fact.at_ wr (.slice (some adb) nb cb)), (36, Fact.at_ wr (.int .i64 (k : Int))), (37, Fact.at_ wr (.pointer (some (adb.add k)))), (38, Fact.at_ wr (.string (bs t))), (39, Fact.at_ wr (.string (bs m2))), (40, Fact.two wr (.string (bs m1)) (.string (bs m2)))]) [1, 2, 8, 9, 12, 11] [] 97 14 [27, 28, 29, 30, 31, 32, 33, 34, 35, 36, 37, 38, 39, 40] rfl (by kernel_rfl) (by kernel_rfl) (by decide) (by kernel_rfl) (by kernel_rfl) ?_ ?_ ?_
      · intro t ht
        simp only [List.mem_cons, List.not_mem_nil, or_false] at ht
        rcases ht with rfl | rfl | rfl | rfl | rfl | rfl
        · exact ⟨rfl, Below.refl _ _⟩
        · exact ⟨rfl, Below.refl _ _⟩
        · exact ⟨rfl, Below.refl _ _⟩
        · exact ⟨rfl, Below.refl _ _⟩
        · exact ⟨rfl, Below.refl _ _⟩
        · exact ⟨rfl, Below.refl _ _⟩
      · refine fcs ⟨Ob.new_ (atcopy 11 27 u11 (.inl rfl) rfl (by first | exact .inl rfl | exact .inr ⟨_, _, _, rfl, rfl, by kernel_rfl, by decide, rfl⟩) (by kernel_rfl) rfl rfl) (by kernel_rfl), ?_⟩
        refine fcs ⟨Ob.new_ (atcopy 8 28 (.int .u64 (x : Int)) (.inl rfl) rfl (by first | exact .inl rfl | exact .inr ⟨_, _, _, rfl, rfl, by kernel_rfl, by decide, rfl⟩) (by kernel_rfl) rfl rfl) (by kernel_rfl), ?_⟩
        refine fcs ⟨Ob.new_ (atcopy 1 29 (.slice (some ada) na ca) (.inl rfl) rfl (by first | exact .inl rfl | exact .inr ⟨_, _, _, rfl, rfl, by kernel_rfl, by decide, rfl⟩) (by kernel_rfl) rfl rfl) (by kernel_rfl), ?_⟩
        refine fcs ⟨Ob.new_ (atcopy 12 30 (.int .i64 (k : Int)) (.inl rfl) rfl (by first | exact .inl rfl | exact .inr ⟨_, _, _, rfl, rfl, by kernel_rfl, by decide, rfl⟩) (by kernel_rfl) rfl rfl) (by kernel_rfl), ?_⟩
        refine fcs ⟨Ob.new_ (at2 29 30 31 (.slice (some ada) na ca) (.int .i64 (k : Int)) (.pointer (some (ada.add k))) rfl (by first | exact .inl rfl | exact .inr ⟨_, _, _, rfl, rfl, by kernel_rfl, by decide, rfl⟩) (by kernel_rfl) (by kernel_rfl) rfl rfl rfl (fun a w hb h1 h2 => by simp [execOp, h1, h2]; go_simp)) (by kernel_rfl), ?_⟩
        refine fcs ⟨Ob.new_ (at1 31 32 (.pointer (some (ada.add k))) (.string (bs s)) rfl (by first | exact .inl rfl | exact .inr ⟨_, _, _, rfl, rfl, by kernel_rfl, by decide, rfl⟩) (by kernel_rfl) rfl rfl (fun a w hb h1 => by have h3 := (hb.cell (p := ada.add k) hla).trans cA; simp [execOp, h1]; go_simp)) (by kernel_rfl), ?_⟩
        refine fcs ⟨Ob.new_ (atc2 20 28 32 33 (.int .u64 (x : Int)) (.string (bs s)) (.string (bs m1)) _ rfl rfl (by first | exact .inl rfl | exact .inr ⟨_, _, _, rfl, rfl, by kernel_rfl, by decide, rfl⟩) (by kernel_rfl) (by kernel_rfl) rfl rfl (by kernel_rfl) rfl (fun w hb => q1 w hb)) (by kernel_rfl), ?_⟩
        refine fcs ⟨Ob.new_ (atcopy 9 34 (.int .u64 (y : Int)) (.inl rfl) rfl (by first | exact .inl rfl | exact .inr ⟨_, _, _, rfl, rfl, by kernel_rfl, by decide, rfl⟩) (by kernel_rfl) rfl rfl) (by kernel_rfl), ?_⟩
        refine fcs ⟨Ob.new_ (atcopy 2 35 (.slice (some adb) nb cb) (.inl rfl) rfl (by first | exact .inl rfl | exact .inr ⟨_, _, _, rfl, rfl, by kernel_rfl, by decide, rfl⟩) (by kernel_rfl) rfl rfl) (by kernel_rfl), ?_⟩
        refine fcs ⟨Ob.new_ (atcopy 12 36 (.int .i64 (k : Int)) (.inl rfl) rfl (by first | exact .inl rfl | exact .inr ⟨_, _, _, rfl, rfl, by kernel_rfl, by decide, rfl⟩) (by kernel_rfl) rfl rfl) (by kernel_rfl), ?_⟩
        refine fcs ⟨Ob.new_ (at2 35 36 37 (.slice (some adb) nb cb) (.int .i64 (k : Int)) (.pointer (some (adb.add k))) rfl (by first | exact .inl rfl | exact .inr ⟨_, _, _, rfl, rfl, by kernel_rfl, by decide, rfl⟩) (by kernel_rfl) (by kernel_rfl) rfl rfl rfl (fun a w hb h1 h2 => by simp [execOp, h1, h2]; go_simp)) (by kernel_rfl), ?_⟩
        refine fcs ⟨Ob.new_ (at1 37 38 (.pointer (some (adb.add k))) (.string (bs t)) rfl (by first | exact .inl rfl | exact .inr ⟨_, _, _, rfl, rfl, by kernel_rfl, by decide, rfl⟩) (by kernel_rfl) rfl rfl (fun a w hb h1 => by have h3 := (hb.cell (p := adb.add k) hlb).trans cB; simp [execOp, h1]; go_simp)) (by kernel_rfl), ?_⟩
        refine fcs ⟨Ob.new_ (atc2 20 34 38 39 (.int .u64 (y : Int)) (.string (bs t)) (.string (bs m2)) _ rfl rfl (by first | exact .inl rfl | exact .inr ⟨_, _, _, rfl, rfl, by kernel_rfl, by decide, rfl⟩) (by kernel_rfl) (by kernel_rfl) rfl rfl (by kernel_rfl) rfl (fun w hb => q2 w hb)) (by kernel_rfl), ?_⟩
        refine fcs ⟨Ob.new_ (at_build2 33 39 40 (.string (bs m1)) (.string (bs m2)) rfl (by first | exact .inl rfl | exact .inr ⟨_, _, _, rfl, rfl, by kernel_rfl, by decide, rfl⟩) (by kernel_rfl) (by kernel_rfl) rfl rfl rfl (fun a w h1 h2 => ⟨9, by simp [execOp, h1, h2]; go_simp⟩)) (by kernel_rfl), ?_⟩
        exact fnl
      intro vv wv hvv hbv _ _
      have hv27 : vv 27 = u11 := (hvv 27 (by decide)).1
      simp only [lay, List.foldl_cons, List.foldl_nil, List.setIfInBounds_toArray, List.set_cons_succ, List.set_cons_zero, hv27, List.drop_succ_cons, List.drop_zero]
      obtain ⟨bb, hv40, hcell, hcell2, -, -⟩ := hvv 40 (by decide)
      have ho2 := ho.other hbv
      have hb3 := Below.next hbw hbv
      have hs3 := hb3.size
      clear hvv
      go_wp2_with (at_builtin; refine wpList_push2 rfl (.tmp 27) (.tmp 40) rfl w.heap.size u11 H m1 m2 ⟨bb, 0, none⟩ 2 rfl hv40 ho2 hcell hcell2 (by omega) hs3 ?_; intro v' W4 ho' hg')
      have hb4 : Below w.heap.size w W4 := hb3.grown hg' hs3 (fun j hj => (ho2.lt j hj).1)
      clear hb3 hs3 ho2 hcell hcell2 hv40 hv27 hbv ho hg' cA cB hla hlb q1 q2 hbw
      have hla := Nat.lt_of_lt_of_le hla0 hb4.size
      have hlb := Nat.lt_of_lt_of_le hlb0 hb4.size
      have cA := (hb4.cell hla0).trans cA0
      have cB := (hb4.cell hlb0).trans cB0
      cases sm
      · go_wp2_with fail
        refine wp_region_seqN (by kernel_rfl) (FF [(1, Fact.at_ W4 (.slice (some ada) na ca)), (2, Fact.at_ W4 (.slice (some adb) nb cb)), (12, Fact.at_ W4 (.int .i64 (k : Int))), (10, Fact.at_ W4 (.bool false)), (42, Fact.at_ W4 (.bool false)), (43, Fact.at_ W4 (.bool false)), (44, Fact.at_ W4 undef), (45, Fact.at_ W4 undef), (46, Fact.at_ W4 undef), (47, Fact.at_ W4 undef), (48, Fact.at_ W4 undef), (49, Fact.at_ W4 undef), (50, Fact.at_ W4 undef), (51, Fact.at_ W4 undef), (52, Fact.at_ W4 undef), (53, Fact.at_ W4 (.bool false))]) [1, 2, 12, 10] [] 97 12 [42, 43, 44, 45, 46, 47, 48, 49, 50, 51, 52, 53] rfl (by kernel_rfl) (by kernel_rfl) (by decide) (by kernel_rfl) (by kernel_rfl) ?_ ?_ ?_
        · intro t ht
          simp only [List.mem_cons, List.not_mem_nil, or_false] at ht
          rcases ht with rfl | rfl | rfl | rfl
          · exact ⟨rfl, Below.refl _ _⟩
          · exact ⟨rfl, Below.refl _ _⟩
          · exact ⟨rfl, Below.refl _ _⟩
          · exact ⟨rfl, Below.refl _ _⟩
        · refine fcs ⟨Ob.new_ (atcopy 10 42 (.bool false) (.inl rfl) rfl (by first | exact .inl rfl | exact .inr ⟨_, _, _, rfl, rfl, by kernel_rfl, by decide, rfl⟩) (by kernel_rfl) rfl rfl) (by kernel_rfl), ?_⟩
          refine fcs ⟨Ob.new_ (atcopy 42 43 (.bool false) (.inl rfl) rfl (by first | exact .inl rfl | exact .inr ⟨_, _, _, rfl, rfl, by kernel_rfl, by decide, rfl⟩) (by kernel_rfl) rfl rfl) (by kernel_rfl), ?_⟩
          refine fcs ⟨Ob.new_ (atskip 1 1 43 44 true (.slice (some ada) na ca) rfl rfl (by kernel_rfl) (by decide) (.inl rfl) (by kernel_rfl) rfl rfl rfl) (by kernel_rfl), ?_⟩
          refine fcs ⟨Ob.new_ (atskip 1 1 43 45 true (.slice (some ada) na ca) rfl rfl (by kernel_rfl) (by decide) (.inl rfl) (by kernel_rfl) rfl rfl rfl) (by kernel_rfl), ?_⟩
          refine fcs ⟨Ob.new_ (atskip 1 1 43 46 true (.slice (some ada) na ca) rfl rfl (by kernel_rfl) (by decide) (.inl rfl) (by kernel_rfl) rfl rfl rfl) (by kernel_rfl), ?_⟩
          refine fcs ⟨Ob.new_ (atskip 1 1 43 47 true (.slice (some ada) na ca) rfl rfl (by kernel_rfl) (by decide) (.inl rfl) (by kernel_rfl) rfl rfl rfl) (by kernel_rfl), ?_⟩
          refine fcs ⟨Ob.new_ (atskip 1 1 43 48 true (.slice (some ada) na ca) rfl rfl (by kernel_rfl) (by decide) (.inl rfl) (by kernel_rfl) rfl rfl rfl) (by kernel_rfl), ?_⟩
          refine fcs ⟨Ob.new_ (atskip 1 1 43 49 true (.slice (some ada) na ca) rfl rfl (by kernel_rfl) (by decide) (.inl rfl) (by kernel_rfl) rfl rfl rfl) (by kernel_rfl), ?_⟩
          refine fcs ⟨Ob.new_ (atskip 1 1 43 50 true (.slice (some ada) na ca) rfl rfl (by kernel_rfl) (by decide) (.inl rfl) (by kernel_rfl) rfl rfl rfl) (by kernel_rfl), ?_⟩
          refine fcs ⟨Ob.new_ (atskip 1 1 43 51 true (.slice (some ada) na ca) rfl rfl (by kernel_rfl) (by decide) (.inl rfl) (by kernel_rfl) rfl rfl rfl) (by kernel_rfl), ?_⟩
          refine fcs ⟨Ob.new_ (atskip 1 1 43 52 true (.slice (some ada) na ca) rfl rfl (by kernel_rfl) (by decide) (.inl rfl) (by kernel_rfl) rfl rfl rfl) (by kernel_rfl), ?_⟩
          refine fcs ⟨Ob.new_ (atpickk 43 53 false (.bool false) _ _ rfl rfl rfl (by first | exact .inl rfl | exact .inr ⟨_, _, _, rfl, rfl, by kernel_rfl, by decide, rfl⟩) (by kernel_rfl) rfl rfl) (by kernel_rfl), ?_⟩
          exact fnl
        intro vv W5 hvv hbv _ _
        have hv53 : vv 53 = (.bool false) := (hvv 53 (by decide)).1
        simp only [lay, List.foldl_cons, List.foldl_nil, List.setIfInBounds_toArray, List.set_cons_succ, List.set_cons_zero, hv53, List.drop_succ_cons, List.drop_zero]
        have hc5 := hbv
        have hb5 := Below.next hb4 hbv
        clear hvv hv53 hbv hla hlb cA cB
        go_wp2_with fail
        have hla := Nat.lt_of_lt_of_le hla0 hb5.size
        have hlb := Nat.lt_of_lt_of_le hlb0 hb5.size
        have cA := (hb5.cell hla0).trans cA0
        have cB := (hb5.cell hlb0).trans cB0
        have hT5 := hT.below hb5
        refine wp_region_on (by kernel_rfl) (FF [(1, Fact.at_ W5 (.slice (some ada) na ca)), (2, Fact.at_ W5 (.slice (some adb) nb cb)), (8, Fact.at_ W5 (.int .u64 (x : Int))), (9, Fact.at_ W5 (.int .u64 (y : Int))), (12, Fact.at_ W5 (.int .i64 (k : Int))), (54, Fact.at_ W5 (.int .u64 (x : Int))), (55, Fact.at_ W5 (.slice (some ada) na ca)), (56, Fact.at_ W5 (.int .i64 (k : Int))), (57, Fact.at_ W5 (.pointer (some (ada.add k)))), (58, Fact.at_ W5 (.string (bs s))), (59, Fact.at_ W5 (.int .u64 (u1 : Int))), (60, Fact.at_ W5 (.int .u64 (y : Int))), (61, Fact.at_ W5 (.slice (some adb) nb cb)), (62, Fact.at_ W5 (.int .i64 (k : Int))), (63, Fact.at_ W5 (.pointer (some (adb.add k)))), (64, Fact.at_ W5 (.string (bs t))), (65, Fact.at_ W5 (.int .u64 (u2 : Int))), (13, Fact.at_ W5 (.int .u64 (u1 : Int))), (14, Fact.at_ W5 (.int .u64 (u2 : Int)))]) [1, 2, 8, 9, 12] 97 [54, 55, 56, 57, 58, 59, 60, 61, 62, 63, 64, 65, 13, 14] rfl (by kernel_rfl) (by kernel_rfl) ?_ ?_ ?_
        · intro t ht
          simp only [List.mem_cons, List.not_mem_nil, or_false] at ht
          rcases ht with rfl | rfl | rfl | rfl | rfl
          · exact ⟨rfl, Below.refl _ _⟩
          · exact ⟨rfl, Below.refl _ _⟩
          · exact ⟨rfl, Below.refl _ _⟩
          · exact ⟨rfl, Below.refl _ _⟩
          · exact ⟨rfl, Below.refl _ _⟩
        · refine fcs ⟨atcopy 8 54 (.int .u64 (x : Int)) (.inl rfl) rfl (by first | exact .inl rfl | exact .inr ⟨_, _, _, rfl, rfl, by kernel_rfl, by decide, rfl⟩) (by kernel_rfl) rfl rfl, ?_⟩
          refine fcs ⟨atcopy 1 55 (.slice (some ada) na ca) (.inl rfl) rfl (by first | exact .inl rfl | exact .inr ⟨_, _, _, rfl, rfl, by kernel_rfl, by decide, rfl⟩) (by kernel_rfl) rfl rfl, ?_⟩
          refine fcs ⟨atcopy 12 56 (.int .i64 (k : Int)) (.inl rfl) rfl (by first | exact .inl rfl | exact .inr ⟨_, _, _, rfl, rfl, by kernel_rfl, by decide, rfl⟩) (by kernel_rfl) rfl rfl, ?_⟩
          refine fcs ⟨at2 55 56 57 (.slice (some ada) na ca) (.int .i64 (k : Int)) (.pointer (some (ada.add k))) rfl (by first | exact .inl rfl | exact .inr ⟨_, _, _, rfl, rfl, by kernel_rfl, by decide, rfl⟩) (by kernel_rfl) (by kernel_rfl) rfl rfl rfl (fun a w hb h1 h2 => by simp [execOp, h1, h2]; go_simp), ?_⟩
          refine fcs ⟨at1 57 58 (.pointer (some (ada.add k))) (.string (bs s)) rfl (by first | exact .inl rfl | exact .inr ⟨_, _, _, rfl, rfl, by kernel_rfl, by decide, rfl⟩) (by kernel_rfl) rfl rfl (fun a w hb h1 => by have h3 := (hb.cell (p := ada.add k) hla).trans cA; simp [execOp, h1]; go_simp), ?_⟩
          refine fcs ⟨atc2 21 54 58 59 (.int .u64 (x : Int)) (.string (bs s)) (.int .u64 (u1 : Int)) _ rfl rfl (by first | exact .inl rfl | exact .inr ⟨_, _, _, rfl, rfl, by kernel_rfl, by decide, rfl⟩) (by kernel_rfl) (by kernel_rfl) rfl rfl (by kernel_rfl) rfl (fun w hb => q3 w (hT5.below hb)), ?_⟩
          refine fcs ⟨atcopy 9 60 (.int .u64 (y : Int)) (.inl rfl) rfl (by first | exact .inl rfl | exact .inr ⟨_, _, _, rfl, rfl, by kernel_rfl, by decide, rfl⟩) (by kernel_rfl) rfl rfl, ?_⟩
          refine fcs ⟨atcopy 2 61 (.slice (some adb) nb cb) (.inl rfl) rfl (by first | exact .inl rfl | exact .inr ⟨_, _, _, rfl, rfl, by kernel_rfl, by decide, rfl⟩) (by kernel_rfl) rfl rfl, ?_⟩
          refine fcs ⟨atcopy 12 62 (.int .i64 (k : Int)) (.inl rfl) rfl (by first | exact .inl rfl | exact .inr ⟨_, _, _, rfl, rfl, by kernel_rfl, by decide, rfl⟩) (by kernel_rfl) rfl rfl, ?_⟩
          refine fcs ⟨at2 61 62 63 (.slice (some adb) nb cb) (.int .i64 (k : Int)) (.pointer (some (adb.add k))) rfl (by first | exact .inl rfl | exact .inr ⟨_, _, _, rfl, rfl, by kernel_rfl, by decide, rfl⟩) (by kernel_rfl) (by kernel_rfl) rfl rfl rfl (fun a w hb h1 h2 => by simp [execOp, h1, h2]; go_simp), ?_⟩
          refine fcs ⟨at1 63 64 (.pointer (some (adb.add k))) (.string (bs t)) rfl (by first | exact .inl rfl | exact .inr ⟨_, _, _, rfl, rfl, by kernel_rfl, by decide, rfl⟩) (by kernel_rfl) rfl rfl (fun a w hb h1 => by have h3 := (hb.cell (p := adb.add k) hlb).trans cB; simp [execOp, h1]; go_simp), ?_⟩
          refine fcs ⟨atc2 21 60 64 65 (.int .u64 (y : Int)) (.string (bs t)) (.int .u64 (u2 : Int)) _ rfl rfl (by first | exact .inl rfl | exact .inr ⟨_, _, _, rfl, rfl, by kernel_rfl, by decide, rfl⟩) (by kernel_rfl) (by kernel_rfl) rfl rfl (by kernel_rfl) rfl (fun w hb => q4 w (hT5.below hb)), ?_⟩
          refine fcs ⟨atcopy 59 13 (.int .u64 (u1 : Int)) (.inr rfl) rfl (by first | exact .inl rfl | exact .inr ⟨_, _, _, rfl, rfl, by kernel_rfl, by decide, rfl⟩) (by kernel_rfl) rfl rfl, ?_⟩
          refine fcs ⟨atcopy 65 14 (.int .u64 (u2 : Int)) (.inr rfl) rfl (by first | exact .inl rfl | exact .inr ⟨_, _, _, rfl, rfl, by kernel_rfl, by decide, rfl⟩) (by kernel_rfl) rfl rfl, ?_⟩
          exact fnl
        intro vv W6 hvv hbv
        have hv13 : vv 13 = (.int .u64 (u1 : Int)) := (hvv 13 (by decide)).1
        have hv14 : vv 14 = (.int .u64 (u2 : Int)) := (hvv 14 (by decide)).1
        simp only [lay, List.foldl_cons, List.foldl_nil, List.setIfInBounds_toArray, List.set_cons_succ, List.set_cons_zero, hv13, hv14]
        have hc6 := Below.next hc5 hbv
        have hb6 := Below.next hb5 hbv
        clear hvv hv13 hv14 hbv hla hlb cA cB hc5 hb5
        have hla := Nat.lt_of_lt_of_le hla0 hb6.size
        have hlb := Nat.lt_of_lt_of_le hlb0 hb6.size
        have cA := (hb6.cell hla0).trans cA0
        have cB := (hb6.cell hlb0).trans cB0
        go_wp2_with fail
        refine (q5 _).mono ?_
        rintro e W7 ⟨rfl, hb⟩
        have hc7 := Below.next hc6 hb
        have hb7 := Below.next hb6 hb
        clear hla hlb cA cB hc6 hb6 hb
        have hla := Nat.lt_of_lt_of_le hla0 hb7.size
        have hlb := Nat.lt_of_lt_of_le hlb0 hb7.size
        have cA := (hb7.cell hla0).trans cA0
        have cB := (hb7.cell hlb0).trans cB0
        go_wp2_with fail
        refine (q6 _).mono ?_
        rintro e W8 ⟨rfl, hb⟩
        have hc8 := Below.next hc7 hb
        have hb8 := Below.next hb7 hb
        clear hla hlb cA cB hc7 hb7 hb
        go_wp2_with fail
        go_roundw
        case rel => exact ⟨k + 1, u1, u2, by omega, by go_num, rfl, rfl, by omega, by omega, by rw [HS.out]; rfl, by rw [HH.out]; exact ho'.other hc8, hb8, HI⟩
        case measure => simp [intOf]; omega
      · go_wp2_with fail
        refine wp_region_seqN (by kernel_rfl) (FF [(1, Fact.at_ W4 (.slice (some ada) na ca)), (2, Fact.at_ W4 (.slice (some adb) nb cb)), (12, Fact.at_ W4 (.int .i64 (k : Int))), (10, Fact.at_ W4 (.bool true)), (42, Fact.at_ W4 (.bool true)), (43, Fact.at_ W4 (.bool true)), (44, Fact.at_ W4 (.slice (some ada) na ca)), (45, Fact.at_ W4 (.int .i64 (k : Int))), (46, Fact.at_ W4 (.pointer (some (ada.add k)))), (47, Fact.at_ W4 (.string (bs s))), (48, Fact.at_ W4 (.slice (some adb) nb cb)), (49, Fact.at_ W4 (.int .i64 (k : Int))), (50, Fact.at_ W4 (.pointer (some (adb.add k)))), (51, Fact.at_ W4 (.string (bs t))), (52, Fact.at_ W4 (.bool eqb)), (53, Fact.at_ W4 (.bool eqb))]) [1, 2, 12, 10] [] 97 12 [42, 43, 44, 45, 46, 47, 48, 49, 50, 51, 52, 53] rfl (by kernel_rfl) (by kernel_rfl) (by decide) (by kernel_rfl) (by kernel_rfl) ?_ ?_ ?_
        · intro t ht
          simp only [List.mem_cons, List.not_mem_nil, or_false] at ht
          rcases ht with rfl | rfl | rfl | rfl
          · exact ⟨rfl, Below.refl _ _⟩
          · exact ⟨rfl, Below.refl _ _⟩
          · exact ⟨rfl, Below.refl _ _⟩
          · exact ⟨rfl, Below.refl _ _⟩
        · refine fcs ⟨Ob.new_ (atcopy 10 42 (.bool true) (.inl rfl) rfl (by first | exact .inl rfl | exact .inr ⟨_, _, _, rfl, rfl, by kernel_rfl, by decide, rfl⟩) (by kernel_rfl) rfl rfl) (by kernel_rfl), ?_⟩
          refine fcs ⟨Ob.new_ (atcopy 42 43 (.bool true) (.inl rfl) rfl (by first | exact .inl rfl | exact .inr ⟨_, _, _, rfl, rfl, by kernel_rfl, by decide, rfl⟩) (by kernel_rfl) rfl rfl) (by kernel_rfl), ?_⟩
          refine fcs ⟨Ob.new_ (atcopy 1 44 (.slice (some ada) na ca) (.inl rfl) rfl (by first | exact .inl rfl | exact .inr ⟨_, _, _, rfl, rfl, by kernel_rfl, by decide, rfl⟩) (by kernel_rfl) rfl rfl) (by kernel_rfl), ?_⟩
          refine fcs ⟨Ob.new_ (atcopy 12 45 (.int .i64 (k : Int)) (.inl rfl) rfl (by first | exact .inl rfl | exact .inr ⟨_, _, _, rfl, rfl, by kernel_rfl, by decide, rfl⟩) (by kernel_rfl) rfl rfl) (by kernel_rfl), ?_⟩
          refine fcs ⟨Ob.new_ (at2 44 45 46 (.slice (some ada) na ca) (.int .i64 (k : Int)) (.pointer (some (ada.add k))) rfl (by first | exact .inl rfl | exact .inr ⟨_, _, _, rfl, rfl, by kernel_rfl, by decide, rfl⟩) (by kernel_rfl) (by kernel_rfl) rfl rfl rfl (fun a w hb h1 h2 => by simp [execOp, h1, h2]; go_simp)) (by kernel_rfl), ?_⟩
          refine fcs ⟨Ob.new_ (at1 46 47 (.pointer (some (ada.add k))) (.string (bs s)) rfl (by first | exact .inl rfl | exact .inr ⟨_, _, _, rfl, rfl, by kernel_rfl, by decide, rfl⟩) (by kernel_rfl) rfl rfl (fun a w hb h1 => by have h3 := (hb.cell (p := ada.add k) hla).trans cA; simp [execOp, h1]; go_simp)) (by kernel_rfl), ?_⟩
          refine fcs ⟨Ob.new_ (atcopy 2 48 (.slice (some adb) nb cb) (.inl rfl) rfl (by first | exact .inl rfl | exact .inr ⟨_, _, _, rfl, rfl, by kernel_rfl, by decide, rfl⟩) (by kernel_rfl) rfl rfl) (by kernel_rfl), ?_⟩
          refine fcs ⟨Ob.new_ (atcopy 12 49 (.int .i64 (k : Int)) (.inl rfl) rfl (by first | exact .inl rfl | exact .inr ⟨_, _, _, rfl, rfl, by kernel_rfl, by decide, rfl⟩) (by kernel_rfl) rfl rfl) (by kernel_rfl), ?_⟩
          refine fcs ⟨Ob.new_ (at2 48 49 50 (.slice (some adb) nb cb) (.int .i64 (k : Int)) (.pointer (some (adb.add k))) rfl (by first | exact .inl rfl | exact .inr ⟨_, _, _, rfl, rfl, by kernel_rfl, by decide, rfl⟩) (by kernel_rfl) (by kernel_rfl) rfl rfl rfl (fun a w hb h1 h2 => by simp [execOp, h1, h2]; go_simp)) (by kernel_rfl), ?_⟩
          refine fcs ⟨Ob.new_ (at1 50 51 (.pointer (some (adb.add k))) (.string (bs t)) rfl (by first | exact .inl rfl | exact .inr ⟨_, _, _, rfl, rfl, by kernel_rfl, by decide, rfl⟩) (by kernel_rfl) rfl rfl (fun a w hb h1 => by have h3 := (hb.cell (p := adb.add k) hlb).trans cB; simp [execOp, h1]; go_simp)) (by kernel_rfl), ?_⟩
          refine fcs ⟨Ob.new_ (at2 47 51 52 (.string (bs s)) (.string (bs t)) (.bool eqb) rfl (by first | exact .inl rfl | exact .inr ⟨_, _, _, rfl, rfl, by kernel_rfl, by decide, rfl⟩) (by kernel_rfl) (by kernel_rfl) rfl rfl rfl (fun a w hb h1 h2 => by simp [execOp, h1, h2]; go_simp)) (by kernel_rfl), ?_⟩
          refine fcs ⟨Ob.new_ (atpick 43 52 53 true (.bool eqb) _ _ rfl rfl rfl (by first | exact .inl rfl | exact .inr ⟨_, _, _, rfl, rfl, by kernel_rfl, by decide, rfl⟩) (by kernel_rfl) (by kernel_rfl) rfl rfl rfl) (by kernel_rfl), ?_⟩
          exact fnl
        intro vv W5 hvv hbv _ _
        have hv53 : vv 53 = (.bool eqb) := (hvv 53 (by decide)).1
        simp only [lay, List.foldl_cons, List.foldl_nil, List.setIfInBounds_toArray, List.set_cons_succ, List.set_cons_zero, hv53, List.drop_succ_cons, List.drop_zero]
        have hc5 := hbv
        have hb5 := Below.next hb4 hbv
        clear hvv hv53 hbv hla hlb cA cB
        go_wp2_with fail
        have hla := Nat.lt_of_lt_of_le hla0 hb5.size
        have hlb := Nat.lt_of_lt_of_le hlb0 hb5.size
        have cA := (hb5.cell hla0).trans cA0
        have cB := (hb5.cell hlb0).trans cB0
        have hT5 := hT.below hb5
        refine wp_region_on (by kernel_rfl) (FF [(1, Fact.at_ W5 (.slice (some ada) na ca)), (2, Fact.at_ W5 (.slice (some adb) nb cb)), (8, Fact.at_ W5 (.int .u64 (x : Int))), (9, Fact.at_ W5 (.int .u64 (y : Int))), (12, Fact.at_ W5 (.int .i64 (k : Int))), (54, Fact.at_ W5 (.int .u64 (x : Int))), (55, Fact.at_ W5 (.slice (some ada) na ca)), (56, Fact.at_ W5 (.int .i64 (k : Int))), (57, Fact.at_ W5 (.pointer (some (ada.add k)))), (58, Fact.at_ W5 (.string (bs s))), (59, Fact.at_ W5 (.int .u64 (u1 : Int))), (60, Fact.at_ W5 (.int .u64 (y : Int))), (61, Fact.at_ W5 (.slice (some adb) nb cb)), (62, Fact.at_ W5 (.int .i64 (k : Int))), (63, Fact.at_ W5 (.pointer (some (adb.add k)))), (64, Fact.at_ W5 (.string (bs t))), (65, Fact.at_ W5 (.int .u64 (u2 : Int))), (13, Fact.at_ W5 (.int .u64 (u1 : Int))), (14, Fact.at_ W5 (.int .u64 (u2 : Int)))]) [1, 2, 8, 9, 12] 97 [54, 55, 56, 57, 58, 59, 60, 61, 62, 63, 64, 65, 13, 14] rfl (by kernel_rfl) (by kernel_rfl) ?_ ?_ ?_
        · intro t ht
          simp only [List.mem_cons, List.not_mem_nil, or_false] at ht
          rcases ht with rfl | rfl | rfl | rfl | rfl
          · exact ⟨rfl, Below.refl _ _⟩
          · exact ⟨rfl, Below.refl _ _⟩
          · exact ⟨rfl, Below.refl _ _⟩
          · exact ⟨rfl, Below.refl _ _⟩
          · exact ⟨rfl, Below.refl _ _⟩
        · refine fcs ⟨atcopy 8 54 (.int .u64 (x : Int)) (.inl rfl) rfl (by first | exact .inl rfl | exact .inr ⟨_, _, _, rfl, rfl, by kernel_rfl, by decide, rfl⟩) (by kernel_rfl) rfl rfl, ?_⟩
          refine fcs ⟨atcopy 1 55 (.slice (some ada) na ca) (.inl rfl) rfl (by first | exact .inl rfl | exact .inr ⟨_, _, _, rfl, rfl, by kernel_rfl, by decide, rfl⟩) (by kernel_rfl) rfl rfl, ?_⟩
          refine fcs ⟨atcopy 12 56 (.int .i64 (k : Int)) (.inl rfl) rfl (by first | exact .inl rfl | exact .inr ⟨_, _, _, rfl, rfl, by kernel_rfl, by decide, rfl⟩) (by kernel_rfl) rfl rfl, ?_⟩
          refine fcs ⟨at2 55 56 57 (.slice (some ada) na ca) (.int .i64 (k : Int)) (.pointer (some (ada.add k))) rfl (by first | exact .inl rfl | exact .inr ⟨_, _, _, rfl, rfl, by kernel_rfl, by decide, rfl⟩) (by kernel_rfl) (by kernel_rfl) rfl rfl rfl (fun a w hb h1 h2 => by simp [execOp, h1, h2]; go_simp), ?_⟩
          refine fcs ⟨at1 57 58 (.pointer (some (ada.add k))) (.string (bs s)) rfl (by first | exact .inl rfl | exact .inr ⟨_, _, _, rfl, rfl, by kernel_rfl, by decide, rfl⟩) (by kernel_rfl) rfl rfl (fun a w hb h1 => by have h3 := (hb.cell (p := ada.add k) hla).trans cA; simp [execOp, h1]; go_simp), ?_⟩
          refine fcs ⟨atc2 21 54 58 59 (.int .u64 (x : Int)) (.string (bs s)) (.int .u64 (u1 : Int)) _ rfl rfl (by first | exact .inl rfl | exact .inr ⟨_, _, _, rfl, rfl, by kernel_rfl, by decide, rfl⟩) (by kernel_rfl) (by kernel_rfl) rfl rfl (by kernel_rfl) rfl (fun w hb => q3 w (hT5.below hb)), ?_⟩
          refine fcs ⟨atcopy 9 60 (.int .u64 (y : Int)) (.inl rfl) rfl (by first | exact .inl rfl | exact .inr ⟨_, _, _, rfl, rfl, by kernel_rfl, by decide, rfl⟩) (by kernel_rfl) rfl rfl, ?_⟩
          refine fcs ⟨atcopy 2 61 (.slice (some adb) nb cb) (.inl rfl) rfl (by first | exact .inl rfl | exact .inr ⟨_, _, _, rfl, rfl, by kernel_rfl, by decide, rfl⟩) (by kernel_rfl) rfl rfl, ?_⟩
          refine fcs ⟨atcopy 12 62 (.int .i64 (k : Int)) (.inl rfl) rfl (by first | exact .inl rfl | exact .inr ⟨_, _, _, rfl, rfl, by kernel_rfl, by decide, rfl⟩) (by kernel_rfl) rfl rfl, ?_⟩
          refine fcs ⟨at2 61 62 63 (.slice (some adb) nb cb) (.int .i64 (k : Int)) (.pointer (some (adb.add k))) rfl (by first | exact .inl rfl | exact .inr ⟨_, _, _, rfl, rfl, by kernel_rfl, by decide, rfl⟩) (by kernel_rfl) (by kernel_rfl) rfl rfl rfl (fun a w hb h1 h2 => by simp [execOp, h1, h2]; go_simp), ?_⟩
          refine fcs ⟨at1 63 64 (.pointer (some (adb.add k))) (.string (bs t)) rfl (by first | exact .inl rfl | exact .inr ⟨_, _, _, rfl, rfl, by kernel_rfl, by decide, rfl⟩) (by kernel_rfl) rfl rfl (fun a w hb h1 => by have h3 := (hb.cell (p := adb.add k) hlb).trans cB; simp [execOp, h1]; go_simp), ?_⟩
          refine fcs ⟨atc2 21 60 64 65 (.int .u64 (y : Int)) (.string (bs t)) (.int .u64 (u2 : Int)) _ rfl rfl (by first | exact .inl rfl | exact .inr ⟨_, _, _, rfl, rfl, by kernel_rfl, by decide, rfl⟩) (by kernel_rfl) (by kernel_rfl) rfl rfl (by kernel_rfl) rfl (fun w hb => q4 w (hT5.below hb)), ?_⟩
          refine fcs ⟨atcopy 59 13 (.int .u64 (u1 : Int)) (.inr rfl) rfl (by first | exact .inl rfl | exact .inr ⟨_, _, _, rfl, rfl, by kernel_rfl, by decide, rfl⟩) (by kernel_rfl) rfl rfl, ?_⟩
          refine fcs ⟨atcopy 65 14 (.int .u64 (u2 : Int)) (.inr rfl) rfl (by first | exact .inl rfl | exact .inr ⟨_, _, _, rfl, rfl, by kernel_rfl, by decide, rfl⟩) (by kernel_rfl) rfl rfl, ?_⟩
          exact fnl
        intro vv W6 hvv hbv
        have hv13 : vv 13 = (.int .u64 (u1 : Int)) := (hvv 13 (by decide)).1
        have hv14 : vv 14 = (.int .u64 (u2 : Int)) := (hvv 14 (by decide)).1
        simp only [lay, List.foldl_cons, List.foldl_nil, List.setIfInBounds_toArray, List.set_cons_succ, List.set_cons_zero, hv13, hv14]
        have hc6 := Below.next hc5 hbv
        have hb6 := Below.next hb5 hbv
        clear hvv hv13 hv14 hbv hla hlb cA cB hc5 hb5
        have hla := Nat.lt_of_lt_of_le hla0 hb6.size
        have hlb := Nat.lt_of_lt_of_le hlb0 hb6.size
        have cA := (hb6.cell hla0).trans cA0
        have cB := (hb6.cell hlb0).trans cB0
        go_wp2_with fail
        refine (q5 _).mono ?_
        rintro e W7 ⟨rfl, hb⟩
        have hc7 := Below.next hc6 hb
        have hb7 := Below.next hb6 hb
        clear hla hlb cA cB hc6 hb6 hb
        have hla := Nat.lt_of_lt_of_le hla0 hb7.size
        have hlb := Nat.lt_of_lt_of_le hlb0 hb7.size
        have cA := (hb7.cell hla0).trans cA0
        have cB := (hb7.cell hlb0).trans cB0
        go_wp2_with fail
        refine (q6 _).mono ?_
        rintro e W8 ⟨rfl, hb⟩
        have hc8 := Below.next hc7 hb
        have hb8 := Below.next hb7 hb
        clear hla hlb cA cB hc7 hb7 hb
        go_wp2_with fail
        go_roundw
        case rel => exact ⟨k + 1, u1, u2, by omega, by go_num, rfl, rfl, by omega, by omega, by rw [HS.out]; rfl, by rw [HH.out]; exact ho'.other hc8, hb8, HI⟩
        case measure => simp [intOf]; omega
    · obtain rfl : k = n := by omega
      rw [List.take_of_length_le (by omega), List.take_of_length_le (by omega)] at ho hI
      rw [List.take_of_length_le (by omega), List.take_of_length_le (by omega)]
      have hT1 := hT.below hbw
      have ca : ∀ W, Tabs W → _ := fun W hW => awake_any W hW
      obtain ⟨sm, hsm⟩ : ∃ b, decide (A = B) = b := ⟨_, rfl⟩
      rw [hsm]
      by_cases f : x = y
      · subst f
        cases sm
        · have e : A ≠ B := of_decide_eq_false hsm
          have hC : Col (hsh p p A B) := (chn_col A B p p (by omega) (by omega) (by omega) (hI.out.1.symm.trans hI.out.2)).resolve_left (fun h => e h.2)
          have hne : hsh p p A B ≠ [] := by
            obtain ⟨s, hs, _⟩ := hC
            exact List.ne_nil_of_mem hs
          have hl := hsh_length p p A B (by omega)
          have hle : ∀ s ∈ hsh p p A B, s.length ≤ 1000000000000000 := by
            intro s hs
            obtain ⟨z, t, ht, rfl⟩ := hsh_mem A B p p s hs
            have hz : t.length ≤ 140737488355328 := ht.elim (lA t) (lB t)
            simp [lk, le_length]
            omega
          obtain ⟨g, cap, rfl, hS⟩ := ho.open_ hne
          have cc := collide_any (hsh p p A B) g cap _ wr rfl (by omega) hle hS hT1 hC
          generalize (hsh p p A B).length = m at *
          clear hI hsm e hC hne hl hle hS ho lA lB SA0 SB0
          go_wp2_with fail
          refine cc.mono ?_
          rintro e w2 ⟨rfl, hb2⟩
          have h2 := Below.next hbw hb2
          clear cc hb2
          go_wp2_with fail
          refine (ca _ (hT.below h2)).mono ?_
          rintro e w3 ⟨rfl, hb3⟩
          go_wp2_with fail
          go_ret
          exact ⟨rfl, Below.next h2 hb3⟩
        · clear hI hsm ho lA lB SA0 SB0
          go_wp2_with fail
          refine (ca _ hT1).mono ?_
          rintro e w3 ⟨rfl, hb3⟩
          go_wp2_with fail
          go_ret
          exact ⟨rfl, Below.next hbw hb3⟩
      · have e : A ≠ B := by
          intro e
          subst e
          exact f (hI.out.1.trans hI.out.2.symm)
        obtain rfl : sm = false := by rw [← hsm]; exact decide_eq_false e
        have d1 : ((x : Int) == (y : Int)) = false := by simp; omega
        have d2 : (x = y) = False := by simp [f]
        clear hI hsm e f ho lA lB SA0 SB0
        go_wp2_with fail
        refine (ca _ hT1).mono ?_
        rintro e w3 ⟨rfl, hb3⟩
        go_wp2_with fail
        go_ret
        exact ⟨rfl, Below.next hbw hb3⟩
end Go.Proofs.YtghmbglnhcdbjaaDoor
