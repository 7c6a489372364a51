/-
  The tables of utf8 read as they were laid, out of the rows' own condition; the law of digests over arguments as they come in. No conditions beyond the rows' own.
-/
import Derived.Test.YthbhbpcjcnkkkaaGreatDoorK22
import Derived.Test.YthbhbpcjcnkkkaaGreatDoorShelfC
import Derived.Lib.LaidU8
import Derived.PinnedBridge
import Derived.Test.YthbhbpcjcnkkkaaGreatDoorK19
import Derived.Test.YthbhbpcjcnkkkaaGreatDoorK16
namespace Go.Proofs.YthbhbpcjcnkkkaaGreatDoor
open Go.RowKit Go.Lib
theorem u8extra : U8Extra Tryz.prog Tryz.lays260_ren := { n3 := by kernel_rfl, n4 := by kernel_rfl, y3 := by kernel_rfl, y4 := by kernel_rfl, c5 := by kernel_rfl, c119 := by kernel_rfl, c138 := by kernel_rfl }
theorem first_is : Rows.laid_unicode_utf8_first = firstData := Pinned.utf8First_eq
theorem accept_is : (Rows.laid_unicode_utf8_acceptRanges : DataW Unit) = acceptData := by kernel_rfl
theorem tabs_laid {w : World} (hl : laidMetH Tryz.prog laidRows w) : Tabs w := by
  rw [MakeChecks.laidMetH_plain _ _ _ (by kernel_rfl)] at hl
  have h3 := laidMet.reads hl (n := "unicode/utf8.first") (d := Rows.laid_unicode_utf8_first) (List.Mem.tail _ (List.Mem.tail _ (List.Mem.tail _ (List.Mem.tail _ (List.Mem.tail _ (List.Mem.tail _ (List.Mem.head _)))))))
  have h4 := laidMet.reads hl (n := "unicode/utf8.acceptRanges") (d := Rows.laid_unicode_utf8_acceptRanges) (List.Mem.tail _ (List.Mem.tail _ (List.Mem.tail _ (List.Mem.head _))))
  rw [first_is] at h3
  rw [accept_is] at h4
  exact utf8Tabs_of_reads Tryz.lays260 u8extra h3 h4
theorem digests_row (S : Sch) (v : Value) (T : Sch) (v' : Value) (s t : ByteArray) (w : World) (hl : lokS S) (hv : ScV w S v) (hl2 : lokS T) (hv2 : ScV w T v') (h : s.size ≤ 9223372036854775807) (h2 : t.size ≤ 9223372036854775807) (hL : laidMetH Tryz.prog Rows.schemaDigestsRow.laid w) :
    Calls Tryz.prog 7 #[v, v', .string s, .string t] w (Ib (.bool true) w) := by
  rw [bs_of s, bs_of t]
  exact schemaDigests_any S T v v' s.data.toList t.data.toList w hl hl2 hv hv2 (by simpa using h) (by simpa using h2) (env_laid hL) (tabs_laid hL)
end Go.Proofs.YthbhbpcjcnkkkaaGreatDoor
/-
  The order of definitions, and definitions that are not used: mathematics, no conditions beyond those that each names.
-/
namespace Go.Proofs.YthbhbpcjcnkkkaaGreatDoor
open Go.RowKit
def zst : St := ⟨[90, 122, 122], []⟩
/-- T has the definitions of S, in another order, and perhaps one more struct without fields. -/
structure Like (S T : Sch) (E : List St) : Prop where
  ver : 1 ≤ T.ver ∧ T.ver ≤ 999
  en : T.enums.Perm S.enums
  st : T.structs.Perm (S.structs ++ E)
  ex : E = [] ∨ E = [zst] ∧ zst.name ∉ sns S ∧ zst.name ∉ ens S
  ln : T.enums.length + T.structs.length ≤ 16
theorem right_mono {S T : Sch} (h1 : ∀ n ∈ sns S, n ∈ sns T) (h2 : ∀ n ∈ ens S, n ∈ ens T) : ∀ t : Ty, right S t = true → right T t = true
  | .mk k s n e, h => by
    have h0 := h
    rw [right_eq] at h0 ⊢
    rw [Bool.and_eq_true] at h0 ⊢
    refine ⟨h0.1, ?_⟩
    obtain ⟨-, h0⟩ := h0
    by_cases h5 : k = 5
    · rw [if_pos h5] at h0 ⊢
      subst h5
      obtain ⟨rfl, t, rfl, ht⟩ := right_list h
      rw [rights, right_mono h1 h2 t ht]
      rfl
    · rw [if_neg h5] at h0 ⊢
      by_cases h6 : k = 6
      · rw [if_pos h6] at h0 ⊢
        rw [Bool.and_eq_true] at h0 ⊢
        exact ⟨by have := h1 n (by simpa using h0.1); simpa using this, h0.2⟩
      · rw [if_neg h6] at h0 ⊢
        by_cases h7 : k = 7
        · rw [if_pos h7] at h0 ⊢
          rw [Bool.and_eq_true] at h0 ⊢
          exact ⟨by have := h2 n (by simpa using h0.1); simpa using this, h0.2⟩
        · rw [if_neg h7] at h0 ⊢
          exact h0
theorem enErr_pre {p q : List (List UInt8)} {x : En} (h : enErr p x = 0) (hq : x.name ∉ q) : enErr q x = 0 := by
  obtain ⟨h1, -, h3, h4, h5⟩ := enErr_ok h
  unfold enErr
  rw [if_neg (by rw [h1]; decide), if_neg (by rw [List.contains_eq_mem]; simpa using hq), if_neg (by rintro (h | h); exact h3 h; exact h h4)]
  exact fe_zero h5
theorem fdErr_mono {S T : Sch} (hR : ∀ t, right S t = true → right T t = true) {t : St} {k : Nat} (hk : k < t.fields.length) (h : fdErr S t k = 0) : fdErr T t k = 0 := by
  have hr := hR _ (fdErr_ok hk h).2.2.2
  unfold fdErr at h ⊢
  rw [getD_of hk] at h ⊢
  rw [hr]
  split at h
  · cases h
  rename_i h1
  split at h
  · cases h
  rename_i h2
  split at h
  · cases h
  rename_i h3
  split at h
  · cases h
  rename_i h4
  rw [if_neg h1, if_neg h2, if_neg h3, if_neg h4, if_neg (by decide)]
theorem stErr_mono {S T : Sch} (hR : ∀ t, right S t = true → right T t = true) {p q : List (List UInt8)} {t : St} (h : stErr S p t = 0) (hq : t.name ∉ q) : stErr T q t = 0 := by
  obtain ⟨h1, -, h3⟩ := stErr_ok h
  unfold stErr
  rw [if_neg (by rw [h1]; decide), if_neg (by rw [List.contains_eq_mem]; simpa using hq)]
  exact fe_zero fun j hj => fdErr_mono hR hj (h3 j hj)
theorem nodup_not {α : Type} {l : List α} (h : l.Nodup) {i : Nat} (hi : i < l.length) : l[i]'hi ∉ l.take i := by
  intro hm
  obtain ⟨j, hj, e⟩ := List.mem_iff_getElem.1 hm
  have hj2 : j < i := by simp at hj; omega
  rw [List.getElem_take] at e
  exact absurd ((List.getElem_inj h).1 e) (by omega)
section
variable {S T : Sch} {E : List St} (h : Like S T E) (hV : Vld S)
include h
theorem Like.mst {t : St} : t ∈ T.structs ↔ t ∈ S.structs ∨ t ∈ E := by rw [h.st.mem_iff, List.mem_append]
theorem Like.men {x : En} : x ∈ T.enums ↔ x ∈ S.enums := h.en.mem_iff
theorem Like.ens_ {n : List UInt8} : n ∈ ens T ↔ n ∈ ens S := by unfold ens; rw [(h.en.map En.name).mem_iff]
theorem Like.sns_ {n : List UInt8} (hn : n ∈ sns S) : n ∈ sns T := by
  obtain ⟨t, ht, rfl⟩ := List.mem_map.1 hn
  exact List.mem_map.2 ⟨t, h.mst.2 (.inl ht), rfl⟩
theorem Like.sub {n : List UInt8} (hn : n ∈ sns T) : n ∈ sns S ∨ E = [zst] ∧ n = zst.name ∧ n ∉ sns S ∧ n ∉ ens S := by
  obtain ⟨t, ht, rfl⟩ := List.mem_map.1 hn
  rcases h.mst.1 ht with ht | ht
  · exact .inl (List.mem_map.2 ⟨t, ht, rfl⟩)
  · rcases h.ex with rfl | ⟨rfl, h1, h2⟩
    · cases ht
    · obtain rfl : t = zst := by simpa using ht
      exact .inr ⟨rfl, rfl, h1, h2⟩
theorem Like.right_ {t : Ty} (ht : right S t = true) : right T t = true := right_mono (fun _ hn => h.sns_ hn) (fun _ hn => h.ens_.2 hn) t ht
include hV
theorem Like.ndS : (sns T).Nodup := by
  unfold sns
  rw [(h.st.map St.name).nodup_iff, List.map_append]
  rcases h.ex with rfl | ⟨rfl, h1, -⟩
  · rw [List.map_nil, List.append_nil]
    exact hV.pt.nd
  · rw [List.nodup_append]
    refine ⟨hV.pt.nd, by simp, fun a ha b hb => ?_⟩
    obtain rfl : b = zst.name := by simpa using hb
    rintro rfl
    exact h1 ha
theorem Like.ndE : (ens T).Nodup := by
  unfold ens
  rw [(h.en.map En.name).nodup_iff]
  exact hV.pt.nde
theorem Like.dj (n : List UInt8) (hn : n ∈ sns T) (he : n ∈ ens T) : False := by
  rw [h.ens_] at he
  rcases h.sub hn with h1 | ⟨-, -, -, h2⟩
  · obtain ⟨t, ht, rfl⟩ := List.mem_map.1 h1
    exact (hV.pt.st_ ht).2.1 he
  · exact h2 he
theorem Like.parts : Parts T where
  en i hi := by
    rw [enE_at hi]
    obtain ⟨j, hj, e⟩ := List.mem_iff_getElem.1 (h.men.1 (List.getElem_mem hi))
    have h1 := hV.pt.en j hj
    rw [enE_at hj, e] at h1
    refine enErr_pre h1 ?_
    have := nodup_not (h.ndE hV) (i := i) (by unfold ens; rw [List.length_map]; exact hi)
    unfold ens at this ⊢
    rw [List.getElem_map] at this
    exact this
  st i hi := by
    rw [stE_at hi]
    have hnot : (T.structs[i]'hi).name ∉ ens T ++ (sns T).take i := by
      rw [List.mem_append]
      rintro (h1 | h1)
      · exact h.dj hV _ (List.mem_map.2 ⟨_, List.getElem_mem hi, rfl⟩) h1
      · have := nodup_not (h.ndS hV) (i := i) (by unfold sns; rw [List.length_map]; exact hi)
        unfold sns at this h1
        rw [List.getElem_map] at this
        exact this h1
    rcases h.mst.1 (List.getElem_mem hi) with h1 | h1
    · obtain ⟨j, hj, e⟩ := List.mem_iff_getElem.1 h1
      have h2 := hV.pt.st j hj
      rw [stE_at hj, e] at h2
      exact stErr_mono (fun t ht => h.right_ ht) h2 hnot
    · rcases h.ex with rfl | ⟨rfl, -, -⟩
      · cases h1
      · obtain h2 : T.structs[i]'hi = zst := by simpa using h1
        rw [h2] at hnot ⊢
        unfold stErr
        rw [if_neg (by decide), if_neg (by rw [List.contains_eq_mem]; simpa using hnot)]
        rfl
theorem Like.fstS {x : List UInt8} (hx : E = [zst] → x ≠ zst.name) : fst_ St.name T.structs x = fst_ St.name S.structs x := by
  rw [fst_perm (h.ndS hV) h.st]
  rcases h.ex with rfl | ⟨rfl, h1, -⟩
  · rw [List.append_nil]
  · exact fst_other _ (fun e => hx rfl e.symm)
theorem Like.fstE (x : List UInt8) : fst_ En.name T.enums x = fst_ En.name S.enums x := fst_perm (h.ndE hV) h.en x
theorem Like.fz (hE : E = [zst]) : (fst_ St.name T.structs zst.name).getD st0 = zst ∧ fst_ St.name S.structs zst.name = none := by
  rcases h.ex with rfl | ⟨-, h1, -⟩
  · cases hE
  refine ⟨?_, fst_out h1⟩
  rw [(fst_iff (h.ndS hV)).2 ⟨h.mst.2 (.inr (by rw [hE]; simp)), rfl⟩]
  rfl
theorem Like.nx_ : nx T = nx S := by
  funext x
  unfold nx
  by_cases hz : E = [zst] ∧ x = zst.name
  · obtain ⟨hE, rfl⟩ := hz
    obtain ⟨h1, h2⟩ := h.fz hV hE
    rw [h1, h2]
    rfl
  · rw [h.fstS hV fun hE e => hz ⟨hE, e⟩]
theorem Like.nocyc : ¬ cyc T := by
  rintro ⟨t, ht, hr⟩
  rw [h.nx_ hV] at hr
  rcases h.mst.1 ht with h1 | h1
  · exact hV.nc ⟨t, h1, hr⟩
  · rcases h.ex with rfl | ⟨rfl, h2, -⟩
    · cases h1
    · obtain rfl : t = zst := by simpa using h1
      rcases hr.first with h3 | ⟨z, h3, -⟩ <;> exact h2 (nx_src h3)
variable (hB : FewB S)
include hB
theorem Like.dF_ (d : List UInt8 → Nat) (x : List UInt8) : dF T d x = dF S d x := by
  unfold dF
  by_cases hz : E = [zst] ∧ x = zst.name
  · obtain ⟨hE, rfl⟩ := hz
    obtain ⟨h1, h2⟩ := h.fz hV hE
    rw [h1, h2]
    rfl
  · rw [h.fstS hV fun hE e => hz ⟨hE, e⟩]
    cases e : fst_ St.name S.structs x with
    | none => rfl
    | some t =>
      unfold fdep
      congr 2
      apply List.map_congr_left
      intro f hf
      have hr := (hV.pt.okk hB).rt t (fst_mem e).1 f hf
      rw [td_eq d _ hr, td_eq d _ (h.right_ hr)]
theorem Like.dep_ (hB2 : FewB T) (x : List UInt8) : dep T x = dep S x := by
  have hd := dpt_of hV.pt.nd hB hV.nc
  have hd2 := dpt_of (h.ndS hV) hB2 (h.nocyc hV)
  exact fix_one (rkS_down hV.pt.nd hV.nc) (dF_near S) _ x (rkS_lt S x) (fun y => (hd2.fx y).trans (h.dF_ hV hB _ y)) (fun y => hd.fx y)
theorem Like.vld (hB2 : FewB T) : Vld T where
  ver := h.ver
  lg := by
    rintro (h1 | ⟨x, hx, h1⟩ | ⟨t, ht, h1⟩)
    · have := h.ln; omega
    · exact hV.lg (.inr (.inl ⟨x, h.men.1 hx, h1⟩))
    · rcases h.mst.1 ht with h2 | h2
      · exact hV.lg (.inr (.inr ⟨t, h2, h1⟩))
      · rcases h.ex with rfl | ⟨rfl, -, -⟩
        · cases h2
        · obtain rfl : t = zst := by simpa using h2
          exact absurd h1 (by decide)
  pt := h.parts hV
  nc := h.nocyc hV
  nd := by
    rintro ⟨t, ht, h1⟩
    rw [h.dep_ hV hB hB2] at h1
    rcases h.mst.1 ht with h2 | h2
    · exact hV.nd ⟨t, h2, h1⟩
    · rcases h.ex with rfl | ⟨rfl, h3, -⟩
      · cases h2
      · obtain rfl : t = zst := by simpa using h2
        have hd := dpt_of hV.pt.nd hB hV.nc
        rw [hd.fx] at h1
        unfold dF at h1
        rw [fst_out h3] at h1
        have h1 : 6 < 1 := h1
        omega
omit hB in
theorem Like.des_ {x : List UInt8} (hx : x ∈ sns S) {l : List (List UInt8)} (hl : ∀ y ∈ l, y ∈ univ S) : des T x l = des S x l := by
  have key : ∀ y, y ∈ univ S → dfOf T y = dfOf S y := fun y hy => by
    unfold dfOf
    rw [h.fstS hV (fun hE e => by
      rcases h.ex with h0 | ⟨-, h1, h2⟩
      · rw [h0] at hE; cases hE
      · subst e
        unfold univ at hy
        rcases List.mem_append.1 hy with h3 | h3
        · exact h1 h3
        · exact h2 h3), h.fstE hV]
  unfold des
  rw [key x (List.mem_append_left _ hx)]
  congr 2
  exact List.map_congr_left fun y hy => key y (hl y hy)
omit hB in
theorem Like.us {x : List UInt8} {l : List (List UInt8)} : Us T x l ↔ Us S x l := by unfold Us; rw [h.nx_ hV]
end
theorem Vld.chk_ {S : Sch} (h : Vld S) : chk S = 0 := by
  rw [chk_ns (by have := h.ver; omega) h.lg h.pt]
  exact (nsR_no h.nc).2 h.nd
end Go.Proofs.YthbhbpcjcnkkkaaGreatDoor
/-
  Rows of structs and of enumerations that a call owns, their parts in older memory. No conditions beyond those that each names.
-/
namespace Go.Proofs.YthbhbpcjcnkkkaaGreatDoor
open Go.RowKit Go.Maps
def stC (l : List (St × Option Addr × Nat)) : List Value := l.flatMap fun p => [.string (bs p.1.name), .slice p.2.1 p.1.fields.length p.2.2]
theorem stC_len (l : List (St × Option Addr × Nat)) : (stC l).length = l.length * 2 := by
  induction l with
  | nil => rfl
  | cons p l ih =>
    have h : (stC (p :: l)).length = (stC l).length + 2 := rfl
    rw [h, ih, List.length_cons]; omega
theorem stC_at : ∀ {l : List (St × Option Addr × Nat)} {i : Nat} (hi : i < l.length), (stC l)[i * 2]? = some (.string (bs (l[i]'hi).1.name)) ∧ (stC l)[i * 2 + 1]? = some (.slice (l[i]'hi).2.1 (l[i]'hi).1.fields.length (l[i]'hi).2.2)
  | p :: l, 0, _ => ⟨rfl, rfl⟩
  | p :: l, i + 1, hi => by
    have := stC_at (l := l) (i := i) (by simpa using hi)
    have e : (i + 1) * 2 = i * 2 + 1 + 1 := by omega
    rw [e]
    exact this
/-- The slice v owns the structs l. -/
def StR (B : Nat) (W0 w : World) (v : Value) (l : List (St × Option Addr × Nat)) : Prop := w.ownsRow B 32 2 v l.length (stC l) ∧ ∀ p ∈ l, Rw FdA 7 W0 p.1.fields p.2.1
theorem StR.nil (B : Nat) (W0 w : World) : StR B W0 w (.slice none 0 0) [] := ⟨World.ownsRow_nil _ _ _ _, fun _ h => by cases h⟩
theorem own_gb {B : Nat} {w w' : World} {e : TypeId} {z : Nat} {v : Value} {n : Nat} {xs : List Value} {q : Option Nat} (h : w.ownsRow B e z v n xs) (hg : w.grownBy w' q) (hne : v = .slice none 0 0 ∨ v.ownBlock ≠ q) : w'.ownsRow B e z v n xs := by
  unfold World.ownsRow at *
  refine ⟨h.1, ?_⟩
  rcases h.2 with h1 | ⟨g, cap, cur, rfl, h2, h3, h4⟩
  · exact .inl h1
  · refine .inr ⟨g, cap, cur, rfl, h2, ?_, h4⟩
    rw [hg.block g (Array.getElem?_eq_some_iff.1 h3).1 (by
      rcases hne with h | h
      · cases h
      · exact h)]
    exact h3
theorem StR.kept {B : Nat} {W0 w w' : World} {v : Value} {l : List (St × Option Addr × Nat)} {q : Option Nat} (h : StR B W0 w v l) (hg : w.grownBy w' q) (hne : v = .slice none 0 0 ∨ v.ownBlock ≠ q) : StR B W0 w' v l := ⟨own_gb h.1 hg hne, h.2⟩
theorem StR.other {B : Nat} {W0 w w' : World} {v : Value} {l : List (St × Option Addr × Nat)} (h : StR B W0 w v l) (hb : Below w.heap.size w w') : StR B W0 w' v l := by
  refine ⟨?_, h.2⟩
  have h0 := h.1
  unfold World.ownsRow at *
  refine ⟨h0.1, ?_⟩
  rcases h0.2 with h1 | ⟨g, cap, cur, h1, h2, h3, h4⟩
  · exact .inl h1
  · refine .inr ⟨g, cap, cur, h1, h2, ?_, h4⟩
    rw [hb.block g (Array.getElem?_eq_some_iff.1 h3).1]
    exact h3
theorem StR.sl {B : Nat} {W0 w : World} {v : Value} {l : List (St × Option Addr × Nat)} (h : StR B W0 w v l) (hb : Below W0.heap.size W0 w) : Sl StA 2 w (l.map Prod.fst) v := by
  obtain ⟨h1, hp⟩ := h
  have h2 := h1
  obtain ⟨-, ⟨rfl, h3⟩ | ⟨g, cap, cur, rfl, -⟩⟩ := h2
  · obtain rfl := List.eq_nil_of_length_eq_zero h3
    exact Sl.nil _ _ _
  · refine ⟨_, cap, by rw [List.length_map], .inr ⟨_, rfl, fun i hi => ?_⟩⟩
    have hi2 : i < l.length := by simpa using hi
    obtain ⟨e1, e2⟩ := stC_at hi2
    have c1 := World.ownsRow.cells h1 (g := g) rfl _ _ e1
    have c2 := World.ownsRow.cells h1 (g := g) rfl _ _ e2
    rw [List.getElem_map]
    have c2' : w.cell? (nx1 ((⟨g, 0, none⟩ : Addr).add (i * 2)) 1) = some (.slice (l[i]'hi2).2.1 (l[i]'hi2).1.fields.length (l[i]'hi2).2.2) := by
      rw [Addr.add_lit] at c2 ⊢
      exact c2
    exact ⟨c1, (l[i]'hi2).2.1, (l[i]'hi2).2.2, c2', (hp _ (List.getElem_mem hi2)).next fun x p => FdA.next hb⟩
def enC (l : List (En × (Option Addr × Nat) × Option Addr × Nat)) : List Value := l.flatMap fun p => [.string (bs p.1.name), .slice p.2.1.1 p.1.names.length p.2.1.2, .slice p.2.2.1 p.1.nums.length p.2.2.2]
theorem enC_len (l : List (En × (Option Addr × Nat) × Option Addr × Nat)) : (enC l).length = l.length * 3 := by
  induction l with
  | nil => rfl
  | cons p l ih =>
    have h : (enC (p :: l)).length = (enC l).length + 3 := rfl
    rw [h, ih, List.length_cons]; omega
theorem enC_at : ∀ {l : List (En × (Option Addr × Nat) × Option Addr × Nat)} {i : Nat} (hi : i < l.length), (enC l)[i * 3]? = some (.string (bs (l[i]'hi).1.name)) ∧ (enC l)[i * 3 + 1]? = some (.slice (l[i]'hi).2.1.1 (l[i]'hi).1.names.length (l[i]'hi).2.1.2) ∧ (enC l)[i * 3 + 2]? = some (.slice (l[i]'hi).2.2.1 (l[i]'hi).1.nums.length (l[i]'hi).2.2.2)
  | p :: l, 0, _ => ⟨rfl, rfl, rfl⟩
  | p :: l, i + 1, hi => by
    have := enC_at (l := l) (i := i) (by simpa using hi)
    have e : (i + 1) * 3 = i * 3 + 1 + 1 + 1 := by omega
    rw [e]
    exact this
/-- The slice v owns the enumerations l. -/
def EnR (B : Nat) (W0 w : World) (v : Value) (l : List (En × (Option Addr × Nat) × Option Addr × Nat)) : Prop := w.ownsRow B 38 3 v l.length (enC l) ∧ ∀ p ∈ l, Rw TyN 1 W0 p.1.names p.2.1.1 ∧ Rw TyI 1 W0 p.1.nums p.2.2.1
theorem EnR.nil (B : Nat) (W0 w : World) : EnR B W0 w (.slice none 0 0) [] := ⟨World.ownsRow_nil _ _ _ _, fun _ h => by cases h⟩
theorem EnR.kept {B : Nat} {W0 w w' : World} {v : Value} {l : List (En × (Option Addr × Nat) × Option Addr × Nat)} {q : Option Nat} (h : EnR B W0 w v l) (hg : w.grownBy w' q) (hne : v = .slice none 0 0 ∨ v.ownBlock ≠ q) : EnR B W0 w' v l := ⟨own_gb h.1 hg hne, h.2⟩
theorem EnR.other {B : Nat} {W0 w w' : World} {v : Value} {l : List (En × (Option Addr × Nat) × Option Addr × Nat)} (h : EnR B W0 w v l) (hb : Below w.heap.size w w') : EnR B W0 w' v l := by
  refine ⟨?_, h.2⟩
  have h0 := h.1
  unfold World.ownsRow at *
  refine ⟨h0.1, ?_⟩
  rcases h0.2 with h1 | ⟨g, cap, cur, h1, h2, h3, h4⟩
  · exact .inl h1
  · refine .inr ⟨g, cap, cur, h1, h2, ?_, h4⟩
    rw [hb.block g (Array.getElem?_eq_some_iff.1 h3).1]
    exact h3
theorem EnR.sl {B : Nat} {W0 w : World} {v : Value} {l : List (En × (Option Addr × Nat) × Option Addr × Nat)} (h : EnR B W0 w v l) (hb : Below W0.heap.size W0 w) : Sl EnA 3 w (l.map Prod.fst) v := by
  obtain ⟨h1, hp⟩ := h
  have h2 := h1
  obtain ⟨-, ⟨rfl, h3⟩ | ⟨g, cap, cur, rfl, -⟩⟩ := h2
  · obtain rfl := List.eq_nil_of_length_eq_zero h3
    exact Sl.nil _ _ _
  · refine ⟨_, cap, by rw [List.length_map], .inr ⟨_, rfl, fun i hi => ?_⟩⟩
    have hi2 : i < l.length := by simpa using hi
    obtain ⟨e1, e2, e3⟩ := enC_at hi2
    have c1 := World.ownsRow.cells h1 (g := g) rfl _ _ e1
    have c2 := World.ownsRow.cells h1 (g := g) rfl _ _ e2
    have c3 := World.ownsRow.cells h1 (g := g) rfl _ _ e3
    obtain ⟨p1, p2⟩ := hp _ (List.getElem_mem hi2)
    rw [List.getElem_map]
    have c2' : w.cell? (nx1 ((⟨g, 0, none⟩ : Addr).add (i * 3)) 1) = some (.slice (l[i]'hi2).2.1.1 (l[i]'hi2).1.names.length (l[i]'hi2).2.1.2) := by
      rw [Addr.add_lit] at c2 ⊢
      exact c2
    have c3' : w.cell? (nx1 ((⟨g, 0, none⟩ : Addr).add (i * 3)) 2) = some (.slice (l[i]'hi2).2.2.1 (l[i]'hi2).1.nums.length (l[i]'hi2).2.2.2) := by
      rw [Addr.add_lit] at c3 ⊢
      exact c3
    exact ⟨c1, ⟨(l[i]'hi2).2.1.1, (l[i]'hi2).2.1.2, c2', p1.next fun x p => TyN.next hb⟩, (l[i]'hi2).2.2.1, (l[i]'hi2).2.2.2, c3', p2.next fun x p => TyI.next hb⟩
theorem infoSt : (Tryz.prog.info? 32).map (fun i => (i.zero, i.size, i.bytes)) = some (some (.agg #[.string ⟨#[]⟩, .slice none 0 0]), 2, 40) := by kernel_rfl
theorem infoEn : (Tryz.prog.info? 38).map (fun i => (i.zero, i.size, i.bytes)) = some (some (.agg #[.string ⟨#[]⟩, .slice none 0 0, .slice none 0 0]), 3, 64) := by kernel_rfl
theorem wpList_pushSt {w : World} {ops : Array Oper} {rest : List Oper} {o : Oper} {a : Act} {Q : Exit → Act → World → Prop} (hgd : o.guard = none) (s x : Operand)
    (ho : o.op = .call { callee := .builtin .append, args := #[s, x], argTypes := #[23, 23] }) (B : Nat) (W0 : World) (v : Value) (l : List (St × Option Addr × Nat)) (t : St) (A : Option Addr) (c : Nat) (ad : Addr) (d : Nat) (hs : a.eval s = v) (hx : a.eval x = .slice (some ad) 1 d)
    (hown : StR B W0 w v l) (hA : Rw FdA 7 W0 t.fields A) (h0 : w.cell? (ad.add 0) = some (.string (bs t.name))) (h1 : w.cell? (ad.add 1) = some (.slice A t.fields.length c)) (hm : l.length ≤ 100000) (hB : B ≤ w.heap.size)
    (h : ∀ v' w', StR B W0 w' v' (l ++ [(t, A, c)]) → w.grownBy w' v.ownBlock → (v'.ownBlock = v.ownBlock ∨ v'.ownBlock = some w.heap.size) → wpList Tryz.prog ops Q rest (a.put o.dst v') w') : wpList Tryz.prog ops Q (o :: rest) a w := by
  obtain ⟨i, hi, hz, hs5, hby⟩ := info_parts infoSt
  refine wpList_append_own_at w hgd s x 23 ho B 32 i _ 2 40 Tryz.underlying23 hi hz hs5 hby rfl (by omega) v l.length (stC l) hs hown.1 ad 1 d [.string (bs t.name), .slice A t.fields.length c] hx rfl
    (by intro j u hj
        match j, hj with
        | 0, hj => simp at hj; subst hj; exact h0
        | 1, hj => simp at hj; subst hj; exact h1) (by simp [Value.oneCell']) (by simp only [maxLen]; omega) (by omega) hB ?_
  intro v' w' h1 h2 _ h4
  refine h v' w' ⟨?_, ?_⟩ h2 h4
  · rw [show stC (l ++ [(t, A, c)]) = stC l ++ [.string (bs t.name), .slice A t.fields.length c] by simp [stC], List.length_append]
    exact h1
  · intro p hp
    rcases List.mem_append.1 hp with hp | hp
    · exact hown.2 p hp
    · obtain rfl : p = (t, A, c) := by simpa using hp
      exact hA
theorem wpList_pushEn {w : World} {ops : Array Oper} {rest : List Oper} {o : Oper} {a : Act} {Q : Exit → Act → World → Prop} (hgd : o.guard = none) (s x : Operand)
    (ho : o.op = .call { callee := .builtin .append, args := #[s, x], argTypes := #[22, 22] }) (B : Nat) (W0 : World) (v : Value) (l : List (En × (Option Addr × Nat) × Option Addr × Nat)) (t : En) (A : Option Addr) (c : Nat) (A2 : Option Addr) (c2 : Nat) (ad : Addr) (d : Nat) (hs : a.eval s = v) (hx : a.eval x = .slice (some ad) 1 d)
    (hown : EnR B W0 w v l) (hA : Rw TyN 1 W0 t.names A) (hA2 : Rw TyI 1 W0 t.nums A2) (h0 : w.cell? (ad.add 0) = some (.string (bs t.name))) (h1 : w.cell? (ad.add 1) = some (.slice A t.names.length c)) (h2 : w.cell? (ad.add 2) = some (.slice A2 t.nums.length c2)) (hm : l.length ≤ 100000) (hB : B ≤ w.heap.size)
    (h : ∀ v' w', EnR B W0 w' v' (l ++ [(t, (A, c), A2, c2)]) → w.grownBy w' v.ownBlock → (v'.ownBlock = v.ownBlock ∨ v'.ownBlock = some w.heap.size) → wpList Tryz.prog ops Q rest (a.put o.dst v') w') : wpList Tryz.prog ops Q (o :: rest) a w := by
  obtain ⟨i, hi, hz, hs5, hby⟩ := info_parts infoEn
  refine wpList_append_own_at w hgd s x 22 ho B 38 i _ 3 64 Tryz.underlying22 hi hz hs5 hby rfl (by omega) v l.length (enC l) hs hown.1 ad 1 d [.string (bs t.name), .slice A t.names.length c, .slice A2 t.nums.length c2] hx rfl
    (by intro j u hj
        match j, hj with
        | 0, hj => simp at hj; subst hj; exact h0
        | 1, hj => simp at hj; subst hj; exact h1
        | 2, hj => simp at hj; subst hj; exact h2) (by simp [Value.oneCell']) (by simp only [maxLen]; omega) (by omega) hB ?_
  intro v' w' h1 h2 _ h4
  refine h v' w' ⟨?_, ?_⟩ h2 h4
  · rw [show enC (l ++ [(t, (A, c), A2, c2)]) = enC l ++ [.string (bs t.name), .slice A t.names.length c, .slice A2 t.nums.length c2] by simp [enC], List.length_append]
    exact h1
  · intro p hp
    rcases List.mem_append.1 hp with hp | hp
    · exact hown.2 p hp
    · obtain rfl : p = (t, (A, c), A2, c2) := by simpa using hp
      exact ⟨hA, hA2⟩
end Go.Proofs.YthbhbpcjcnkkkaaGreatDoor
/-
  'append' onto a slice that a call owns, where the elder slice reads as before. No conditions beyond those that each names.
-/
namespace Go.Proofs.YthbhbpcjcnkkkaaGreatDoor
open Go.RowKit Go.Maps
theorem run_append_keep {P : Program} (w : World) (base : Nat) (t ty e : TypeId) (i : TypeInfo) (z : Value) (size bytes : Nat) (ht : P.underlying t = some (.slice e)) (hi : P.info? e = some i) (hz : i.zero = some z)
    (hsize : i.size = size) (hby : i.bytes = bytes) (hzs : z.cells.size = size) (hsz : 0 < size) (v : Value) (n : Nat) (xs : List Value) (hown : w.ownsRow base e size v n xs)
    (a : Addr) (m c : Nat) (news : List Value) (hl : news.length = m * size) (hnews : ∀ j u, news[j]? = some u → w.cell? (a.add j) = some u) (h1 : ∀ u ∈ news, u.oneCell' = true)
    (h63 : n + m ≤ maxLen) (hbytes : (n + m) * bytes ≤ 140737488355328) (hbase : base ≤ w.heap.size) :
    ∃ v' w', (Builtin.append_ #[t, t] ty #[v, .slice (some a) m c]).run P w = .ok v' w' ∧ w'.ownsRow base e size v' (n + m) (xs ++ news) ∧ w'.ownsRow base e size v n xs ∧ w.grownBy w' v.ownBlock ∧
      (v'.ownBlock = v.ownBlock ∨ v'.ownBlock = some w.heap.size) := by
  obtain ⟨v', w', hr, h2, h3, -, h5⟩ := run_append_own_at (P := P) w base t ty e i z size bytes ht hi hz hsize hby hzs hsz v n xs hown a m c news hl hnews h1 h63 hbytes hbase
  refine ⟨v', w', hr, h2, ?_, h3, h5⟩
  subst hsize
  subst hby
  have hsmall : n + m ≤ 9223372036854775807 := by simp only [maxLen] at h63; omega
  rcases hown.2 with ⟨rfl, rfl⟩ | ⟨g, cap, cur, rfl, hbg, hg, hnc, hcm, hcs, htake⟩
  · have hx : xs = [] := List.eq_nil_of_length_eq_zero (by simpa using hown.1)
    subst hx
    exact World.ownsRow_nil w' base e i.size
  · by_cases hroom : n + m ≤ cap
    · have hfit : n * i.size + news.length ≤ cur.size := by rw [hl, hcs, ← Nat.add_mul]; exact Nat.mul_le_mul_right _ hroom
      have hr2 := run_append_room (P := P) w t ty e i ht hi g n cap cur hg a m c news hl hnews h1 hroom hfit
      rw [hr] at hr2
      injection hr2 with e1 e2
      subst e2
      refine ⟨hown.1, .inr ⟨g, cap, _, rfl, hbg, setRow_heap w g cur _ e _ hg, hnc, hcm, ?_, ?_⟩⟩
      · simp only [List.size_toArray, List.length_append, List.length_take, List.length_drop, Array.length_toList]
        omega
      · rw [htake, ← hown.1, List.append_assoc]
        exact List.take_left
    · have holds : ∀ j u, xs[j]? = some u → w.cell? ((⟨g, 0, none⟩ : Addr).add j) = some u := hown.cells (g := g) rfl
      have hr2 := run_append_grow (P := P) w t ty e i z ht hi hz ⟨g, 0, none⟩ n cap xs hown.1 holds a m c news hl hnews (by omega) (by omega) (growslice_fits (by omega) hbytes)
      rw [hr] at hr2
      injection hr2 with e1 e2
      subst e2
      refine ⟨hown.1, .inr ⟨g, cap, cur, rfl, hbg, ?_, hnc, hcm, hcs, htake⟩⟩
      rw [heap_alloc_old w.drew _ (show g < w.drew.heap.size from (Array.getElem?_eq_some_iff.1 hg).1)]
      exact hg
theorem wpList_keepSt {w : World} {ops : Array Oper} {rest : List Oper} {o : Oper} {a : Act} {Q : Exit → Act → World → Prop} (hgd : o.guard = none) (s x : Operand)
    (ho : o.op = .call { callee := .builtin .append, args := #[s, x], argTypes := #[23, 23] }) (B : Nat) (W0 : World) (v : Value) (l : List (St × Option Addr × Nat)) (t : St) (A : Option Addr) (c : Nat) (ad : Addr) (d : Nat) (hs : a.eval s = v) (hx : a.eval x = .slice (some ad) 1 d)
    (hown : StR B W0 w v l) (hA : Rw FdA 7 W0 t.fields A) (h0 : w.cell? (ad.add 0) = some (.string (bs t.name))) (h1 : w.cell? (ad.add 1) = some (.slice A t.fields.length c)) (hm : l.length ≤ 100000) (hB : B ≤ w.heap.size)
    (h : ∀ v' w', StR B W0 w' v' (l ++ [(t, A, c)]) → StR B W0 w' v l → w.grownBy w' v.ownBlock → (v'.ownBlock = v.ownBlock ∨ v'.ownBlock = some w.heap.size) → wpList Tryz.prog ops Q rest (a.put o.dst v') w') : wpList Tryz.prog ops Q (o :: rest) a w := by
  obtain ⟨i, hi, hz, hs5, hby⟩ := info_parts infoSt
  refine wpList_plain hgd fun K hK => ?_
  obtain ⟨v', w', hr, h2, h3, h4, h5⟩ := run_append_keep (P := Tryz.prog) w B 23 o.type 32 i _ 2 40 Tryz.underlying23 hi hz hs5 hby rfl (by omega) v l.length (stC l) hown.1 ad 1 d [.string (bs t.name), .slice A t.fields.length c] rfl
    (by intro j u hj
        match j, hj with
        | 0, hj => simp at hj; subst hj; exact h0
        | 1, hj => simp at hj; subst hj; exact h1) (by simp [Value.oneCell']) (by simp only [maxLen]; omega) (by omega) hB
  unfold Oper.wp execOp
  simp only [ho, resolve, invoke, builtin, Sem.run_bind, Sem.run_pure, Result.andThen_ok, List.map_toArray, List.map_cons, List.map_nil, hs, hx, hr]
  refine hK _ _ (h v' w' ⟨?_, ?_⟩ ⟨h3, hown.2⟩ h4 h5)
  · rw [show stC (l ++ [(t, A, c)]) = stC l ++ [.string (bs t.name), .slice A t.fields.length c] by simp [stC], List.length_append]
    exact h2
  · intro p hp
    rcases List.mem_append.1 hp with hp | hp
    · exact hown.2 p hp
    · obtain rfl : p = (t, A, c) := by simpa using hp
      exact hA
end Go.Proofs.YthbhbpcjcnkkkaaGreatDoor
/-
  The law of the order of definitions. Go's own bounds of lengths, and what the library's variables hold, are its conditions.
-/
namespace Go.Proofs.YthbhbpcjcnkkkaaGreatDoor
open Go.RowKit Go.Shelf Go.Maps
/-- A slice of one element in a new block. -/
def FNe (cells : List Value) (W0 : World) : Fact := ⟨fun v w' => ∃ g, v = .slice (some ⟨g, 0, none⟩) 1 1 ∧ Bx w' g cells ∧ W0.heap.size ≤ g ∧ Below W0.heap.size W0 w', fun _ _ _ ⟨g, h1, h2, h3, h4⟩ hb => ⟨g, h1, h2.next hb, h3, upG h4 hb⟩⟩
section
variable {S T : Sch} {E : List St} (h : Like S T E) (hV : Vld S) (hB : FewB S) (hB2 : FewB T) {x : List UInt8} (hx : x ∈ sns S)
include h hV hB hB2 hx
theorem Like.dig_ : dig T x = dig S x := by
  have hO := hV.pt.okk hB
  obtain ⟨l, hl⟩ := us_ex hO x
  rw [dig_at (h.vld hV hB hB2).chk_ (List.contains_iff_mem.2 (h.sns_ hx)) ((h.us hV).2 hl), dig_at hV.chk_ (List.contains_iff_mem.2 hx) hl, h.des_ hV hx fun y hy => reach_univ hO ((hl.2 y).1 hy)]
theorem Like.depA_ : depA T x = depA S x := by
  rw [cl_dep (h.vld hV hB hB2).chk_ (h.sns_ hx), cl_dep hV.chk_ hx, h.dep_ hV hB hB2 x]
theorem Like.usA_ {l : List (List UInt8)} (hu : UsA T x l) : UsA S x l := .inl ⟨hV.chk_, List.contains_iff_mem.2 hx, (h.us hV).1 (cl_us (h.vld hV hB hB2).chk_ (h.sns_ hx) hu)⟩
end
theorem few_rev {S : Sch} (hB : FewB S) : FewB ⟨S.ver, S.enums.reverse, S.structs.reverse⟩ where
  ne := by show S.enums.reverse.length ≤ 18; rw [List.length_reverse]; exact hB.ne
  ns := by show S.structs.reverse.length ≤ 18; rw [List.length_reverse]; exact hB.ns
  en x hx := hB.en x (List.mem_reverse.1 hx)
  st t ht := hB.st t (List.mem_reverse.1 ht)
theorem few_more {S : Sch} (hB : FewB S) (hl : S.enums.length + S.structs.length ≤ 16) {E : List St} (hE : E = [] ∨ E = [zst]) : FewB ⟨7, S.enums, S.structs.reverse ++ E⟩ where
  ne := hB.ne
  ns := by
    show (S.structs.reverse ++ E).length ≤ 18
    rw [List.length_append, List.length_reverse]
    rcases hE with rfl | rfl
    · simp only [List.length_nil]; omega
    · simp only [List.length_cons, List.length_nil]; omega
  en := hB.en
  st t ht := by
    have ht : t ∈ S.structs.reverse ++ E := ht
    rcases List.mem_append.1 ht with ht | ht
    · exact hB.st t (List.mem_reverse.1 ht)
    · rcases hE with rfl | rfl
      · cases ht
      · obtain rfl : t = zst := by simpa using ht
        exact ⟨by decide, by decide, fun f hf => by cases hf⟩
theorem like_rev {S : Sch} (hV : Vld S) (hl : S.enums.length + S.structs.length ≤ 16) : Like S ⟨S.ver, S.enums.reverse, S.structs.reverse⟩ [] where
  ver := hV.ver
  en := List.reverse_perm _
  st := by rw [List.append_nil]; exact List.reverse_perm _
  ex := .inl rfl
  ln := by show S.enums.reverse.length + S.structs.reverse.length ≤ 16; rw [List.length_reverse, List.length_reverse]; exact hl
theorem like_more {S : Sch} (hl : S.enums.length + S.structs.length ≤ 16) {E : List St} (hE : E = [] ∨ E = [zst] ∧ zst.name ∉ sns S ∧ zst.name ∉ ens S ∧ S.enums.length + S.structs.length < 16) : Like S ⟨7, S.enums, S.structs.reverse ++ E⟩ E where
  ver := ⟨by show (1 : Int) ≤ 7; decide, by show (7 : Int) ≤ 999; decide⟩
  en := List.Perm.refl _
  st := (List.reverse_perm _).append_right _
  ex := by
    rcases hE with h | ⟨h1, h2, h3, -⟩
    · exact .inl h
    · exact .inr ⟨h1, h2, h3⟩
  ln := by
    show S.enums.length + (S.structs.reverse ++ E).length ≤ 16
    rw [List.length_append, List.length_reverse]
    rcases hE with rfl | ⟨rfl, -, -, h⟩
    · simp only [List.length_nil]; omega
    · simp only [List.length_cons, List.length_nil]; omega
theorem own_slice {w : World} {B : Nat} {e : TypeId} {z n : Nat} {v : Value} {xs : List Value} (h : w.ownsRow B e z v n xs) : ∃ A k c, v = .slice A k c := by
  rcases h.2 with ⟨h1, -⟩ | ⟨g, cap, cur, h1, -⟩
  · exact ⟨_, _, _, h1⟩
  · exact ⟨_, _, _, h1⟩
theorem EnR.ne {B B2 : Nat} {W0 w : World} {v : Value} {l : List (En × (Option Addr × Nat) × Option Addr × Nat)} (h : EnR B W0 w v l) (hlt : ∀ b, v.ownBlock = some b → b < B2) {q : Option Nat} (hq : ∀ b, q = some b → B2 ≤ b) : v = .slice none 0 0 ∨ v.ownBlock ≠ q := by
  rcases h.1.2 with ⟨h1, -⟩ | ⟨g, cap, cur, rfl, -⟩
  · exact .inl h1
  · refine .inr fun e => ?_
    have h1 := hlt g rfl
    have h2 := hq g e.symm
    omega
set_option maxRecDepth 100000 in
set_option maxHeartbeats 32000000 in
theorem schemaOrder_any (S : Sch) (v : Value) (w : World) (hlk : lokS S) (hv : ScV w S v) (hE : Env w) (hT : Tabs w) :
    Calls Tryz.prog 8 #[v] w (Ib (.bool true) w) := by
  have hv0 := hv
  obtain ⟨A, c, A2, c2, rfl, hS⟩ := hv
  obtain ⟨n, hn⟩ : ∃ n, S.enums.length = n := ⟨_, rfl⟩
  obtain ⟨m, hm⟩ : ∃ m, S.structs.length = m := ⟨_, rfl⟩
  have HN := Lib.hid hn
  have HM := Lib.hid hm
  rw [hn, hm] at hv0 ⊢
  have hab := ab1 w (Obj.cells #[.int .i64 S.ver, .slice A n c, .slice A2 m c2] 25)
  have hv1 := hv0.next hab
  have B1 := Bx.new3 w 25 (.int .i64 S.ver) (.slice A n c) (.slice A2 m c2)
  have cF := few_any S _ _ hlk hv1
  obtain ⟨f, hf⟩ : ∃ f, few S = f := ⟨_, rfl⟩
  rw [hf] at cF
  have hE1 := hE.next hab
  have hSs := hS.st
  have hSe := hS.en
  clear hS hn hm
  go_enter Tryz.func8, Tryz.ntmps8
  go_wp2_with fail
  refine cF.mono ?_
  rintro e w2 ⟨rfl, hb2⟩
  have hbw := Below.next hab hb2
  have hE2 := hE1.next hb2
  cases f
  · go_wp2_with fail
    refine (awake_any _ hE2).mono ?_
    rintro e w3 ⟨rfl, hb3⟩
    go_wp2_with fail
    go_ret
    exact ⟨rfl, Below.next hbw hb3⟩
  have hB := few_B hf
  have B2 := B1.next hb2
  have s0 := B2.c 0 rfl
  have s1 := B2.c 1 rfl
  have s2 := B2.c 2 rfl
  have l1 := B2.lt
  have cC := refCheck_any S hB _ w2 (hv1.next hb2)
  obtain ⟨kc, hkc⟩ : ∃ kc, chk S = kc := ⟨_, rfl⟩
  rw [hkc] at cC
  clear cF hE1
  go_wp2_with fail
  refine cC.mono ?_
  rintro e w3 ⟨rfl, hb3⟩
  have hbw3 := Below.next hbw hb3
  have hE3 := hE2.next hb3
  have R0 := B2.next hb3
  clear cC s0 s1 s2 l1 B2 hE2
  by_cases h0 : kc = 0
  case neg =>
    have d1 : ((kc : Int) != 0) = true := by simp; omega
    have d2 : ((kc : Int) == 0) = false := by simp; omega
    go_wp2_with fail
    refine (awake_any _ hE3).mono ?_
    rintro e w4 ⟨rfl, hb4⟩
    go_wp2_with fail
    go_ret
    exact ⟨rfl, Below.next hbw3 hb4⟩
  have hcz : chk S = 0 := hkc.trans h0
  have hV := chk_zero hcz
  have hl16 : S.enums.length + S.structs.length ≤ 16 := Nat.le_of_not_lt fun h => hV.lg (.inl h)
  have hn16 : n + m ≤ 16 := by have h := hl16; rw [HN.out, HM.out] at h; exact h
  have d1 : ((kc : Int) != 0) = false := by simp; omega
  have d2 : ((kc : Int) == 0) = true := by simp; omega
  have s0 := R0.c 0 rfl
  have s1 := R0.c 1 rfl
  have l1 := R0.lt
  have T0 := Bx.new3 w3 25 (.int .i64 S.ver) (.slice none 0 0) (.slice none 0 0)
  have k3 := ab1 w3 (Obj.cells #[.int .i64 S.ver, .slice none 0 0, .slice none 0 0] 25)
  have R1 := R0.next k3
  have hb4 := Below.next hbw3 k3
  have hg0 : w.heap.size < w3.heap.size := R0.lt
  have HL0 : Hid (([] : List (En × (Option Addr × Nat) × Option Addr × Nat)).map Prod.fst = (S.enums.drop n).reverse) := Lib.hid (by rw [← HN.out, List.drop_length]; rfl)
  have hz3 : w3.heap.size + 1 ≤ (w3.alloc (Obj.cells #[.int .i64 S.ver, .slice none 0 0, .slice none 0 0] 25)).heap.size := by simp
  clear hE3 hkc h0 R0
  go_wp2_with fail
  obtain ⟨g3, hg3⟩ : ∃ g, w3.heap.size = g := ⟨_, rfl⟩
  rw [hg3] at T0 hg0 hz3 ⊢
  generalize w3.alloc (Obj.cells #[.int .i64 S.ver, .slice none 0 0, .slice none 0 0] 25) = w4 at *
  clear k3 hb3 hbw3 s0 s1 l1 hg3 hbw hb2 d1 d2
  go_loopw [4] (fun i_ wr => ∃ (k : Nat) (vE : Value) (l : List (En × (Option Addr × Nat) × Option Addr × Nat)), k ≤ n ∧ i_ = .int .i64 ((k : Int) - 1) ∧ Hid (l.map Prod.fst = (S.enums.drop k).reverse) ∧ EnR (g3 + 1) w wr vE l ∧ Bx wr g3 [.int .i64 S.ver, vE, .slice none 0 0] ∧ Bx wr w.heap.size [.int .i64 S.ver, .slice A n c, .slice A2 m c2] ∧ Below w.heap.size w wr) (fun i_ _ => (intOf i_ + 1).toNat)
  case atStart => exact ⟨n, .slice none 0 0, [], Nat.le_refl _, rfl, HL0, EnR.nil _ _ _, T0, R1, hb4⟩
  case round =>
    clear T0 R1 hb4 HL0 hz3
    obtain ⟨k1, vE, l, hk, rfl, HLl, hEn, T1, R1, hb⟩ := hrel
    have s1 := R1.c 1 rfl
    have s2 := R1.c 2 rfl
    have l1 := R1.lt
    have t1 := T1.c 1 rfl
    have l2 := T1.lt
    by_cases hk0 : k1 = 0
    case neg =>
      obtain ⟨k, rfl⟩ : ∃ k, k1 = k + 1 := ⟨k1 - 1, by omega⟩
      have ek : (((k + 1 : Nat) : Int) - 1) = (k : Int) := by omega
      rw [ek]
      have hkn : k < n := by omega
      have hkm : k < S.enums.length := by rw [HN.out]; exact hkn
      obtain ⟨a, rfl, hA⟩ := hSe.get hkm
      obtain ⟨A3, c3, A4, c4, x0, x1, x2, hVv⟩ := hA.val
      have HL2 := Lib.hid (show (l ++ [(S.enums[k]'hkm, (A3, c3), A4, c4)]).map Prod.fst = (S.enums.drop k).reverse by rw [List.map_append, HLl.out, List.drop_eq_getElem_cons hkm, List.reverse_cons]; rfl)
      have hll : l.length ≤ 100000 := by
        have h := congrArg List.length HLl.out
        rw [List.length_map, List.length_reverse, List.length_drop, HN.out] at h
        omega
      obtain ⟨A5, c5, A6, c6, hV0, hRn, hRi⟩ := hVv
      obtain ⟨rfl, rfl, rfl, rfl⟩ : A3 = A5 ∧ c3 = c5 ∧ A4 = A6 ∧ c4 = c6 := by injection hV0 with h; simp at h; exact ⟨h.1.1, h.1.2, h.2.1, h.2.2⟩
      generalize S.enums[k]'hkm = t at *
      replace x0 := cell_next hb x0
      replace x1 := cell_next hb x1
      replace x2 := cell_next hb x2
      have hblk : (a.add (k * 3)).block < wr.heap.size := blk_lt x0
      have hne3 : some g3 ≠ vE.ownBlock := fun e => by have := (hEn.1.lt g3 e.symm).1; omega
      have hne0 : some w.heap.size ≠ vE.ownBlock := fun e => by have := (hEn.1.lt _ e.symm).1; omega
      have hgrw : ∀ b, vE.ownBlock = some b → w.heap.size ≤ b := fun b e => by have := (hEn.1.lt b e).1; omega
      clear hA hV0 HLl ek hk0
      go_upto_region 7 with (fail)
      refine wp_region_seqN (by kernel_rfl) (FF [(1, Fact.at_ wr (.pointer (some ⟨w.heap.size, 0, none⟩))), (3, Fact.at_ wr (.pointer (some ⟨g3, 0, none⟩))), (4, Fact.at_ wr (.int .i64 (k : Int))), (34, Fact.at_ wr (.pointer (some ⟨g3, 1, none⟩))), (35, Fact.at_ wr vE), (36, Fact.at_ wr (.pointer (some ⟨w.heap.size, 1, none⟩))), (37, Fact.at_ wr (.slice (some a) n c)), (38, Fact.at_ wr (.int .i64 (k : Int))), (39, Fact.at_ wr (.pointer (some (a.add (k * 3))))), (40, Fact.at_ wr (.agg #[.string (bs t.name), .slice A3 t.names.length c3, .slice A4 t.nums.length c4])), (41, FNe [.string (bs t.name), .slice A3 t.names.length c3, .slice A4 t.nums.length c4] wr)]) [1, 3, 4] [] 153 8 [34, 35, 36, 37, 38, 39, 40, 41] rfl (by kernel_rfl) (by kernel_rfl) (by decide) (by kernel_rfl) (by kernel_rfl) ?_ ?_ ?_
      · intro t9 ht9
        simp only [List.mem_cons, List.not_mem_nil, or_false] at ht9
        rcases ht9 with rfl | rfl | rfl
        · exact ⟨rfl, Below.refl _ _⟩
        · exact ⟨rfl, Below.refl _ _⟩
        · exact ⟨rfl, Below.refl _ _⟩
      · refine fcs ⟨Ob.new_ (at1 3 34 (.pointer (some ⟨g3, 0, none⟩)) (.pointer (some ⟨g3, 1, none⟩)) rfl (by first | exact .inl rfl | exact .inr ⟨_, _, _, rfl, rfl, by kernel_rfl, by decide, rfl⟩) (by kernel_rfl) rfl rfl (fun a9 W9 hb9 h9 => by simp [execOp, h9] <;> go_simp)) (by kernel_rfl), ?_⟩
        refine fcs ⟨Ob.new_ (at1 34 35 (.pointer (some ⟨g3, 1, none⟩)) vE rfl (by first | exact .inl rfl | exact .inr ⟨_, _, _, rfl, rfl, by kernel_rfl, by decide, rfl⟩) (by kernel_rfl) rfl rfl (fun a9 W9 hb9 h9 => by have g0 := cell_next hb9 t1; simp [execOp, h9] <;> go_simp)) (by kernel_rfl), ?_⟩
        refine fcs ⟨Ob.new_ (at1 1 36 (.pointer (some ⟨w.heap.size, 0, none⟩)) (.pointer (some ⟨w.heap.size, 1, none⟩)) rfl (by first | exact .inl rfl | exact .inr ⟨_, _, _, rfl, rfl, by kernel_rfl, by decide, rfl⟩) (by kernel_rfl) rfl rfl (fun a9 W9 hb9 h9 => by simp [execOp, h9] <;> go_simp)) (by kernel_rfl), ?_⟩
        refine fcs ⟨Ob.new_ (at1 36 37 (.pointer (some ⟨w.heap.size, 1, none⟩)) (.slice (some a) n c) rfl (by first | exact .inl rfl | exact .inr ⟨_, _, _, rfl, rfl, by kernel_rfl, by decide, rfl⟩) (by kernel_rfl) rfl rfl (fun a9 W9 hb9 h9 => by have g0 := cell_next hb9 s1; simp [execOp, h9] <;> go_simp)) (by kernel_rfl), ?_⟩
        refine fcs ⟨Ob.new_ (atcopy 4 38 (.int .i64 (k : Int)) (.inl rfl) rfl (by first | exact .inl rfl | exact .inr ⟨_, _, _, rfl, rfl, by kernel_rfl, by decide, rfl⟩) (by kernel_rfl) rfl rfl) (by kernel_rfl), ?_⟩
        refine fcs ⟨Ob.new_ (at2 37 38 39 (.slice (some a) n c) (.int .i64 (k : Int)) (.pointer (some (a.add (k * 3)))) rfl (by first | exact .inl rfl | exact .inr ⟨_, _, _, rfl, rfl, by kernel_rfl, by decide, rfl⟩) (by kernel_rfl) (by kernel_rfl) rfl rfl rfl (fun a9 W9 hb9 h9 h8 => by simp [execOp, h9, h8] <;> go_simp)) (by kernel_rfl), ?_⟩
        refine fcs ⟨Ob.new_ (at1 39 40 (.pointer (some (a.add (k * 3)))) (.agg #[.string (bs t.name), .slice A3 t.names.length c3, .slice A4 t.nums.length c4]) rfl (by first | exact .inl rfl | exact .inr ⟨_, _, _, rfl, rfl, by kernel_rfl, by decide, rfl⟩) (by kernel_rfl) rfl rfl (fun a9 W9 hb9 h9 => by have g0 := cell_next hb9 x0; have g1 := cell_next hb9 x1; have g2 := cell_next hb9 x2; simp [execOp, h9] <;> go_simp)) (by kernel_rfl), ?_⟩
        refine fcs ⟨Ob.new_ (at_val (W0 := wr) (by first | exact .inl rfl | exact .inr ⟨_, _, _, rfl, rfl, by kernel_rfl, by decide, rfl⟩) (fun a9 W9 hf9 => by have p40 := hf9 40 (by kernel_rfl); have h9 : a9.eval (.tmp 40) = (.agg #[.string (bs t.name), .slice A3 t.names.length c3, .slice A4 t.nums.length c4]) := p40.1; exact ⟨.slice (some ⟨W9.heap.size, 0, none⟩) 1 1, W9.alloc (Obj.cells #[.string (bs t.name), .slice A3 t.names.length c3, .slice A4 t.nums.length c4] 38), by simp [execOp, h9] <;> go_simp, ab1 _ _, fun s hs => by injection hs with hs; subst hs; exact ⟨W9.heap.size, rfl, Bx.new3 _ _ _ _ _, p40.2.size, upG p40.2 (ab1 _ _)⟩⟩)) (by kernel_rfl), ?_⟩
        exact fnl
      intro vv wv hvv hbv _ _
      have hv35 : vv 35 = vE := (hvv 35 (by decide)).1
      simp only [lay, List.foldl_cons, List.foldl_nil, List.setIfInBounds_toArray, List.set_cons_succ, List.set_cons_zero, hv35, List.drop_succ_cons, List.drop_zero]
      obtain ⟨gb, e41, hBb, -, -⟩ := hvv 41 (by decide)
      simp only [e41]
      have E2 := hEn.other hbv
      have T2 := T1.next hbv
      have Q2 := R1.next hbv
      have hb2 := Below.next hb hbv
      have y0 : wv.cell? ((⟨gb, 0, none⟩ : Addr).add 0) = some (.string (bs t.name)) := hBb.c 0 rfl
      have y1 : wv.cell? ((⟨gb, 0, none⟩ : Addr).add 1) = some (.slice A3 t.names.length c3) := by rw [Addr.add_lit]; exact hBb.c 1 rfl
      have y2 : wv.cell? ((⟨gb, 0, none⟩ : Addr).add 2) = some (.slice A4 t.nums.length c4) := by rw [Addr.add_lit]; exact hBb.c 2 rfl
      have hBs : g3 + 1 ≤ wv.heap.size := T2.lt
      clear hvv e41 x0 x1 x2 hblk s1 s2 l1 t1 l2 T1 R1 hEn hBb
      go_wp2_with (at_builtin; refine wpList_pushEn rfl (.tmp 35) (.tmp 41) rfl (g3 + 1) w vE l t A3 c3 A4 c4 ⟨gb, 0, none⟩ 1 rfl rfl E2 hRn hRi y0 y1 y2 hll hBs ?_; intro v' w6 ho' hg' h4'; obtain ⟨Av, nv, cv, rfl⟩ := own_slice ho'.1; have T3 := T2.rob hne3 w6 hg'; have q0 := T3.c 1 rfl; have q1 := T3.f 1 rfl; have q2 := T3.lt)
      go_roundw
      case rel =>
        have hne4 : Value.ownBlock (.slice Av nv cv) ≠ some g3 := fun e => by have := (ho'.1.lt g3 e).1; omega
        have Q3 : Bx w6 w.heap.size [.int .i64 S.ver, .slice (some a) n c, .slice A2 m c2] := Q2.rob hne0 w6 hg'
        exact ⟨k, .slice Av nv cv, _, by omega, by go_num, HL2, ho'.kept (gb_set1 w6 ⟨g3, 1, none⟩ (.slice Av nv cv)) (.inr hne4), T3.put 1 _, Q3.kept (gb_set1 w6 ⟨g3, 1, none⟩ (.slice Av nv cv)) (by show w.heap.size ≠ g3; omega), (hb2.grown hg' hb2.size hgrw).setCell (by show w.heap.size ≤ g3; omega) _⟩
      case measure => simp [intOf] <;> omega
    obtain rfl : k1 = 0 := hk0
    have HL1 := Lib.hid (show l.map Prod.fst = S.enums.reverse by rw [HLl.out, List.drop_zero])
    have hltE : ∀ b, vE.ownBlock = some b → b < wr.heap.size := fun b e => (hEn.1.lt b e).2
    have hneE : vE.ownBlock ≠ some g3 := fun e => by have := (hEn.1.lt g3 e).1; omega
    have HM0 : Hid (([] : List (St × Option Addr × Nat)).map Prod.fst = (S.structs.drop m).reverse) := Lib.hid (by rw [← HM.out, List.drop_length]; rfl)
    clear HLl t1
    go_wp2_with fail
    clear s1 s2 l1 l2
    rename World => wo
    have hgo : w.heap.size ≤ wo.heap.size ∧ g3 < wo.heap.size := ⟨hb.size, T1.lt⟩
    go_loopw [5] (fun i_ wr => ∃ (k : Nat) (vS : Value) (l2 : List (St × Option Addr × Nat)), k ≤ m ∧ i_ = .int .i64 ((k : Int) - 1) ∧ Hid (l2.map Prod.fst = (S.structs.drop k).reverse) ∧ StR wo.heap.size w wr vS l2 ∧ EnR (g3 + 1) w wr vE l ∧ Bx wr g3 [.int .i64 S.ver, vE, vS] ∧ Bx wr w.heap.size [.int .i64 S.ver, .slice A n c, .slice A2 m c2] ∧ Below w.heap.size w wr ∧ Hid (wo.heap.size ≤ wr.heap.size)) (fun i_ _ => (intOf i_ + 1).toNat)
    case atStart => exact ⟨m, .slice none 0 0, [], Nat.le_refl _, rfl, HM0, StR.nil _ _ _, hEn, T1, R1, hb, Lib.hid (Nat.le_refl _)⟩
    case round =>
      clear hEn T1 R1 hb HM0
      obtain ⟨k1, vS, l2, hk, rfl, HLl, hSt, hEn, T1, R1, hb, hwo⟩ := hrel
      have s1 := R1.c 1 rfl
      have s2 := R1.c 2 rfl
      have lw1 := R1.lt
      have t2 := T1.c 2 rfl
      have lw2 := T1.lt
      by_cases hk0 : k1 = 0
      case neg =>
        obtain ⟨k, rfl⟩ : ∃ k, k1 = k + 1 := ⟨k1 - 1, by omega⟩
        have ek : (((k + 1 : Nat) : Int) - 1) = (k : Int) := by omega
        rw [ek]
        have hkn : k < m := by omega
        have hkm : k < S.structs.length := by rw [HM.out]; exact hkn
        obtain ⟨a, rfl, hA⟩ := hSs.get hkm
        obtain ⟨A3, c3, x0, x1, hVv⟩ := hA.val
        have HL2 := Lib.hid (show (l2 ++ [(S.structs[k]'hkm, A3, c3)]).map Prod.fst = (S.structs.drop k).reverse by rw [List.map_append, HLl.out, List.drop_eq_getElem_cons hkm, List.reverse_cons]; rfl)
        have hll : l2.length ≤ 100000 := by
          have h := congrArg List.length HLl.out
          rw [List.length_map, List.length_reverse, List.length_drop, HM.out] at h
          omega
        obtain ⟨A5, c5, hV0, hRn⟩ := hVv
        obtain ⟨rfl, rfl⟩ : A3 = A5 ∧ c3 = c5 := by injection hV0 with h; simp at h; exact ⟨h.1, h.2⟩
        generalize S.structs[k]'hkm = t at *
        replace x0 := cell_next hb x0
        replace x1 := cell_next hb x1
        have hblk : (a.add (k * 2)).block < wr.heap.size := blk_lt x0
        have hne3 : some g3 ≠ vS.ownBlock := fun e => by have := (hSt.1.lt g3 e.symm).1; omega
        have hne0 : some w.heap.size ≠ vS.ownBlock := fun e => by have := (hSt.1.lt _ e.symm).1; omega
        have hgrw : ∀ b, vS.ownBlock = some b → w.heap.size ≤ b := fun b e => by have := (hSt.1.lt b e).1; omega
        have hqS : ∀ b, vS.ownBlock = some b → wo.heap.size ≤ b := fun b e => (hSt.1.lt b e).1
        clear hA hV0 HLl ek hk0
        go_upto_region 11 with (fail)
        refine wp_region_seqN (by kernel_rfl) (FF [(1, Fact.at_ wr (.pointer (some ⟨w.heap.size, 0, none⟩))), (3, Fact.at_ wr (.pointer (some ⟨g3, 0, none⟩))), (5, Fact.at_ wr (.int .i64 (k : Int))), (52, Fact.at_ wr (.pointer (some ⟨g3, 2, none⟩))), (53, Fact.at_ wr vS), (54, Fact.at_ wr (.pointer (some ⟨w.heap.size, 2, none⟩))), (55, Fact.at_ wr (.slice (some a) m c2)), (56, Fact.at_ wr (.int .i64 (k : Int))), (57, Fact.at_ wr (.pointer (some (a.add (k * 2))))), (58, Fact.at_ wr (.agg #[.string (bs t.name), .slice A3 t.fields.length c3])), (59, FNe [.string (bs t.name), .slice A3 t.fields.length c3] wr)]) [1, 3, 5] [] 153 8 [52, 53, 54, 55, 56, 57, 58, 59] rfl (by kernel_rfl) (by kernel_rfl) (by decide) (by kernel_rfl) (by kernel_rfl) ?_ ?_ ?_
        · intro t9 ht9
          simp only [List.mem_cons, List.not_mem_nil, or_false] at ht9
          rcases ht9 with rfl | rfl | rfl
          · exact ⟨rfl, Below.refl _ _⟩
          · exact ⟨rfl, Below.refl _ _⟩
          · exact ⟨rfl, Below.refl _ _⟩
        · refine fcs ⟨Ob.new_ (at1 3 52 (.pointer (some ⟨g3, 0, none⟩)) (.pointer (some ⟨g3, 2, none⟩)) rfl (by first | exact .inl rfl | exact .inr ⟨_, _, _, rfl, rfl, by kernel_rfl, by decide, rfl⟩) (by kernel_rfl) rfl rfl (fun a9 W9 hb9 h9 => by simp [execOp, h9] <;> go_simp)) (by kernel_rfl), ?_⟩
          refine fcs ⟨Ob.new_ (at1 52 53 (.pointer (some ⟨g3, 2, none⟩)) vS rfl (by first | exact .inl rfl | exact .inr ⟨_, _, _, rfl, rfl, by kernel_rfl, by decide, rfl⟩) (by kernel_rfl) rfl rfl (fun a9 W9 hb9 h9 => by have g0 := cell_next hb9 t2; simp [execOp, h9] <;> go_simp)) (by kernel_rfl), ?_⟩
          refine fcs ⟨Ob.new_ (at1 1 54 (.pointer (some ⟨w.heap.size, 0, none⟩)) (.pointer (some ⟨w.heap.size, 2, none⟩)) rfl (by first | exact .inl rfl | exact .inr ⟨_, _, _, rfl, rfl, by kernel_rfl, by decide, rfl⟩) (by kernel_rfl) rfl rfl (fun a9 W9 hb9 h9 => by simp [execOp, h9] <;> go_simp)) (by kernel_rfl), ?_⟩
          refine fcs ⟨Ob.new_ (at1 54 55 (.pointer (some ⟨w.heap.size, 2, none⟩)) (.slice (some a) m c2) rfl (by first | exact .inl rfl | exact .inr ⟨_, _, _, rfl, rfl, by kernel_rfl, by decide, rfl⟩) (by kernel_rfl) rfl rfl (fun a9 W9 hb9 h9 => by have g0 := cell_next hb9 s2; simp [execOp, h9] <;> go_simp)) (by kernel_rfl), ?_⟩
          refine fcs ⟨Ob.new_ (atcopy 5 56 (.int .i64 (k : Int)) (.inl rfl) rfl (by first | exact .inl rfl | exact .inr ⟨_, _, _, rfl, rfl, by kernel_rfl, by decide, rfl⟩) (by kernel_rfl) rfl rfl) (by kernel_rfl), ?_⟩
          refine fcs ⟨Ob.new_ (at2 55 56 57 (.slice (some a) m c2) (.int .i64 (k : Int)) (.pointer (some (a.add (k * 2)))) rfl (by first | exact .inl rfl | exact .inr ⟨_, _, _, rfl, rfl, by kernel_rfl, by decide, rfl⟩) (by kernel_rfl) (by kernel_rfl) rfl rfl rfl (fun a9 W9 hb9 h9 h8 => by simp [execOp, h9, h8] <;> go_simp)) (by kernel_rfl), ?_⟩
          refine fcs ⟨Ob.new_ (at1 57 58 (.pointer (some (a.add (k * 2)))) (.agg #[.string (bs t.name), .slice A3 t.fields.length c3]) rfl (by first | exact .inl rfl | exact .inr ⟨_, _, _, rfl, rfl, by kernel_rfl, by decide, rfl⟩) (by kernel_rfl) rfl rfl (fun a9 W9 hb9 h9 => by have g0 := cell_next hb9 x0; have g1 := cell_next hb9 x1; simp [execOp, h9] <;> go_simp)) (by kernel_rfl), ?_⟩
          refine fcs ⟨Ob.new_ (at_val (W0 := wr) (by first | exact .inl rfl | exact .inr ⟨_, _, _, rfl, rfl, by kernel_rfl, by decide, rfl⟩) (fun a9 W9 hf9 => by have p58 := hf9 58 (by kernel_rfl); have h9 : a9.eval (.tmp 58) = (.agg #[.string (bs t.name), .slice A3 t.fields.length c3]) := p58.1; exact ⟨.slice (some ⟨W9.heap.size, 0, none⟩) 1 1, W9.alloc (Obj.cells #[.string (bs t.name), .slice A3 t.fields.length c3] 32), by simp [execOp, h9] <;> go_simp, ab1 _ _, fun s hs => by injection hs with hs; subst hs; exact ⟨W9.heap.size, rfl, Bx.new2 _ _ _ _, p58.2.size, upG p58.2 (ab1 _ _)⟩⟩)) (by kernel_rfl), ?_⟩
          exact fnl
        intro vv wv hvv hbv _ _
        have hv53 : vv 53 = vS := (hvv 53 (by decide)).1
        simp only [lay, List.foldl_cons, List.foldl_nil, List.setIfInBounds_toArray, List.set_cons_succ, List.set_cons_zero, hv53, List.drop_succ_cons, List.drop_zero]
        obtain ⟨gb, e59, hBb, -, -⟩ := hvv 59 (by decide)
        simp only [e59]
        have E2 := hEn.other hbv
        have S2 := hSt.other hbv
        have T2 := T1.next hbv
        have Q2 := R1.next hbv
        have hb2 := Below.next hb hbv
        have y0 : wv.cell? ((⟨gb, 0, none⟩ : Addr).add 0) = some (.string (bs t.name)) := hBb.c 0 rfl
        have y1 : wv.cell? ((⟨gb, 0, none⟩ : Addr).add 1) = some (.slice A3 t.fields.length c3) := by rw [Addr.add_lit]; exact hBb.c 1 rfl
        have hBs : wo.heap.size ≤ wv.heap.size := Nat.le_trans hwo.out hbv.size
        clear hvv e59 x0 x1 hblk s1 s2 lw1 t2 lw2 T1 R1 hEn hSt hBb
        go_wp2_with (at_builtin; refine wpList_pushSt rfl (.tmp 53) (.tmp 59) rfl wo.heap.size w vS l2 t A3 c3 ⟨gb, 0, none⟩ 1 rfl rfl S2 hRn y0 y1 hll hBs ?_; intro v' w6 ho' hg' h4'; obtain ⟨Av, nv, cv, rfl⟩ := own_slice ho'.1; have T3 := T2.rob hne3 w6 hg'; have q0 := T3.c 2 rfl; have q1 := T3.f 2 rfl; have q2 := T3.lt)
        go_roundw
        case rel =>
          have hne4 : Value.ownBlock (.slice Av nv cv) ≠ some g3 := fun e => by have := (ho'.1.lt g3 e).1; omega
          have Q3 : Bx w6 w.heap.size [.int .i64 S.ver, .slice A n c, .slice (some a) m c2] := Q2.rob hne0 w6 hg'
          have E3 := E2.kept hg' (E2.ne hltE hqS)
          have hsz := hg'.size
          exact ⟨k, by omega, by first | rfl | go_num, .slice Av nv cv, _, HL2, ho'.kept (gb_set1 w6 ⟨g3, 2, none⟩ (.slice Av nv cv)) (.inr hne4), E3.kept (gb_set1 w6 ⟨g3, 2, none⟩ (.slice Av nv cv)) (.inr hneE), T3.put 2 _, Q3.kept (gb_set1 w6 ⟨g3, 2, none⟩ (.slice Av nv cv)) (by show w.heap.size ≠ g3; omega), (hb2.grown hg' hb2.size hgrw).setCell (by show w.heap.size ≤ g3; omega) _, Lib.hid (Nat.le_trans hBs hg'.size)⟩
        case measure => simp [intOf] <;> omega
      obtain rfl : k1 = 0 := hk0
      have HM1 : l2.map Prod.fst = S.structs.reverse := by rw [HLl.out, List.drop_zero]
      have hE1 := hEn.sl hb
      have hS1 := hSt.sl hb
      rw [HL1.out] at hE1
      rw [HM1] at hS1
      obtain ⟨AE, cE, hvE, hRE⟩ := hE1
      obtain ⟨AS, cS, hvS, hRS⟩ := hS1
      rw [List.length_reverse, HN.out] at hvE
      rw [List.length_reverse, HM.out] at hvS
      subst hvE
      subst hvS
      have s0 := R1.c 0 rfl
      have M0 := Bx.new3 wr 25 (.int .i64 7) (.slice A n c) (.slice AS m cS)
      have k6 := ab1 wr (Obj.cells #[.int .i64 7, .slice A n c, .slice AS m cS] 25)
      have hg63 : g3 < wr.heap.size := T1.lt
      have hg60 : w.heap.size < wr.heap.size := R1.lt
      have cZ : ∀ W, Below w.heap.size w W → Calls Tryz.prog 14 #[.agg #[.int .i64 S.ver, .slice A n c, .slice A2 m c2], .string ⟨#[90, 122, 122]⟩] W (StO (fst_ St.name S.structs zst.name) W) := fun W h => refStruct_any S zst.name _ W (hv0.next h) (by rw [HM.out]; omega)
      have cZE : ∀ W, Below w.heap.size w W → Calls Tryz.prog 16 #[.agg #[.int .i64 S.ver, .slice A n c, .slice A2 m c2], .string ⟨#[90, 122, 122]⟩] W (EnO (fst_ En.name S.enums zst.name) W) := fun W h => refEnum_any S zst.name _ W (hv0.next h) (by rw [HN.out]; omega)
      unfold StO at cZ
      unfold EnO at cZE
      rw [mem_sns] at cZ
      rw [mem_ens] at cZE
      obtain ⟨bz, hbz⟩ : ∃ b, (sns S).contains zst.name = b := ⟨_, rfl⟩
      obtain ⟨be, hbe⟩ : ∃ b, (ens S).contains zst.name = b := ⟨_, rfl⟩
      rw [hbz] at cZ
      rw [hbe] at cZE
      generalize (fst_ St.name S.structs zst.name).getD st0 = tz at *
      generalize (fst_ En.name S.enums zst.name).getD en0 = ez at *
      have hB1 := few_rev hB
      have H1 := like_rev hV hl16
      have cC1 : ∀ W, Below wr.heap.size wr W → Calls Tryz.prog 11 #[.agg #[.int .i64 S.ver, .slice AE n cE, .slice AS m cS]] W (Ib (.int .i64 0) W) := fun W h => by
        have c := check_any _ hB1 (.agg #[.int .i64 S.ver, .slice AE n cE, .slice AS m cS]) W (⟨AE, cE, AS, cS, by show _ = Value.agg #[_, .slice AE S.enums.reverse.length cE, .slice AS S.structs.reverse.length cS]; rw [List.length_reverse, List.length_reverse, HN.out, HM.out], hRE.next fun _ _ => EnA.next h, hRS.next fun _ _ => StA.next h⟩) (hE.next (Below.next hb h))
        rw [(H1.vld hV hB hB1).chk_] at c
        exact c
      have HT1 : Hid (∀ W, Below wr.heap.size wr W → ScV W ⟨S.ver, S.enums.reverse, S.structs.reverse⟩ (.agg #[.int .i64 S.ver, .slice AE n cE, .slice AS m cS])) := Lib.hid fun W h => ⟨AE, cE, AS, cS, by show _ = Value.agg #[_, .slice AE S.enums.reverse.length cE, .slice AS S.structs.reverse.length cS]; rw [List.length_reverse, List.length_reverse, HN.out, HM.out], hRE.next fun _ _ => EnA.next h, hRS.next fun _ _ => StA.next h⟩
      have HBZ := Lib.hid hbz
      have HBE := Lib.hid hbe
      have HWO := hwo
      clear hbz hbe HLl hk hwo
      go_wp2_with fail
      refine (cZ _ (Below.next hb k6)).mono ?_
      rintro e w7 ⟨u, rfl, ⟨A7, c7, rfl, -⟩, hb7⟩
      have k7 := ab1 w7 (Obj.cells #[.string (bs tz.name), .slice A7 tz.fields.length c7] 32)
      have hk67 := Below.next k6 hb7
      obtain ⟨g6, hg6⟩ : ∃ g, wr.heap.size = g := ⟨_, rfl⟩
      have M7 := M0.next hb7
      have R7 := (R1.next k6).next hb7
      have T7 := (T1.next k6).next hb7
      rw [hg6] at M7 ⊢
      have hb9 := Below.next hb hk67
      clear cZ s0 s1 s2 lw1 t2 lw2 M0
      cases bz
      case true =>
        have hcur := Below.next hb9 k7
        have hcw := Below.next hk67 k7
        have Rc := R7.next k7
        have Tc := T7.next k7
        have Mc := M7.next k7
        have hEf : ([] : List St) = [] ∨ ([] : List St) = [zst] := .inl rfl
        have hEx : ([] : List St) = [] ∨ ([] : List St) = [zst] ∧ zst.name ∉ sns S ∧ zst.name ∉ ens S ∧ S.enums.length + S.structs.length < 16 := .inl rfl
        have hVm0 : ∀ W, Below wr.heap.size wr W → ScV W ⟨7, S.enums, S.structs.reverse ++ []⟩ (.agg #[.int .i64 7, .slice A n c, .slice AS m cS]) := fun W h => ⟨A, c, AS, cS, by show _ = Value.agg #[_, .slice A S.enums.length c, .slice AS (S.structs.reverse ++ []).length cS]; rw [List.append_nil, List.length_reverse, HN.out, HM.out], hSe.next fun _ _ => EnA.next (Below.next hb h), by show Rw StA 2 W (S.structs.reverse ++ []) AS; rw [List.append_nil]; exact hRS.next fun _ _ => StA.next h⟩
        have hVm := fun W h => hVm0 W (Below.next hcw h)
        clear hVm0
        have hB2 := few_more hB hl16 (E := []) hEf
        have H2 := like_more hl16 (E := []) hEx
        have cC2 : ∀ W, Below w.heap.size w W → (ScV W ⟨7, S.enums, S.structs.reverse ++ []⟩ (.agg #[.int .i64 7, .slice A n c, .slice AS m cS])) → Calls Tryz.prog 11 #[.agg #[.int .i64 7, .slice A n c, .slice AS m cS]] W (Ib (.int .i64 0) W) := fun W h hs => by
          have c := check_any _ hB2 (.agg #[.int .i64 7, .slice A n c, .slice AS m cS]) W hs (hE.next h)
          rw [(H2.vld hV hB hB2).chk_] at c
          exact c
        have t0 := Tc.c 0 rfl
        have t1 := Tc.c 1 rfl
        have t2 := Tc.c 2 rfl
        have t3 := Tc.lt
        go_wp2_with fail
        refine (cC1 _ hcw).mono ?_
        rintro e wa ⟨rfl, hba⟩
        replace Mc := Mc.next hba
        have m0 := Mc.c 0 rfl
        have m1 := Mc.c 1 rfl
        have m2 := Mc.c 2 rfl
        have m3 := Mc.lt
        have cC3 := cC2 wa (Below.next hcur hba) (hVm wa hba)
        clear t0 t1 t2 t3 cC1 cC2
        go_wp2_with fail
        refine cC3.mono ?_
        rintro e wb ⟨rfl, hbb⟩
        replace Mc := Mc.next hbb
        replace Rc := (Rc.next hba).next hbb
        replace Tc := (Tc.next hba).next hbb
        replace hcur := Below.next (Below.next hcur hba) hbb
        replace hcw := Below.next (Below.next hcw hba) hbb
        replace hVm : ∀ W, Below wb.heap.size wb W → ScV W ⟨7, S.enums, S.structs.reverse ++ []⟩ (.agg #[.int .i64 7, .slice A n c, .slice AS m cS]) := fun W h => hVm W (Below.next (Below.next hba hbb) h)
        replace HT1 : Hid (∀ W, Below wb.heap.size wb W → ScV W ⟨S.ver, S.enums.reverse, S.structs.reverse⟩ (.agg #[.int .i64 S.ver, .slice AE n cE, .slice AS m cS])) := Lib.hid fun W h => HT1.out W (Below.next hcw h)
        clear cC3 m0 m1 m2 m3 hba hbb
        go_wp2_with fail
        go_loopw [11] (fun i_ wr => ∃ k : Nat, k ≤ m ∧ i_ = .int .i64 (k : Int) ∧ Bx wr w.heap.size [.int .i64 S.ver, .slice A n c, .slice A2 m c2] ∧ Bx wr g3 [.int .i64 S.ver, .slice AE n cE, .slice AS m cS] ∧ Bx wr g6 [.int .i64 7, .slice A n c, .slice AS m cS] ∧ Below wb.heap.size wb wr) (fun i_ _ => m - (intOf i_).toNat)
        case atStart => exact ⟨0, by omega, rfl, Rc, Tc, Mc, Below.refl _ _⟩
        case round =>
          clear Rc Tc Mc
          obtain ⟨k, hk, rfl, R1, T1, M1, hb⟩ := hrel
          have s0 := R1.c 0 rfl
          have s1 := R1.c 1 rfl
          have s2 := R1.c 2 rfl
          have lw1 := R1.lt
          have hbw := Below.next hcur hb
          by_cases hlt : k < m
          · have hkm : k < S.structs.length := by rw [HM.out]; exact hlt
            obtain ⟨a2, rfl, hA⟩ := hSs.get hkm
            have x0 := cell_next hbw hA.1
            have hblk : (a2.add (k * 2)).block < wr.heap.size := blk_lt x0
            have hx := (hB.st _ (List.getElem_mem hkm)).1
            have hxs : (S.structs[k]'hkm).name ∈ sns S := List.mem_map.2 ⟨_, List.getElem_mem hkm, rfl⟩
            generalize (S.structs[k]'hkm).name = x at *
            replace hx : x.length ≤ 9223372036854775807 := Nat.le_trans hx (by decide)
            have cD0 := devDigest_any S hB x hx _ wr (hv0.next hbw) (hE.next hbw) (hT.below hbw)
            obtain ⟨d0, hd0⟩ : ∃ d, dig S x = d := ⟨_, rfl⟩
            obtain ⟨p0, hp0⟩ : ∃ d, depA S x = d := ⟨_, rfl⟩
            rw [hd0] at cD0
            have HD0 := Lib.hid hd0
            have HP0 := Lib.hid hp0
            clear hA hd0 hp0
            go_wp2_with fail
            refine cD0.mono ?_
            rintro e wd ⟨rfl, hbd⟩
            replace R1 := R1.next hbd
            replace T1 := T1.next hbd
            replace M1 := M1.next hbd
            have hbw2 := Below.next hbw hbd
            have hbx := Below.next hb hbd
            clear cD0 s0 s1 s2 lw1 x0 hblk
            have cD1 := fun W (h : Below wd.heap.size wd W) => devDigest_any _ hB1 x hx _ W (HT1.out W (Below.next hbx h)) (hE.next (Below.next hbw2 h)) (hT.below (Below.next hbw2 h))
            have cD2 := fun W (h : Below wd.heap.size wd W) => devDigest_any _ hB2 x hx _ W (hVm W (Below.next hbx h)) (hE.next (Below.next hbw2 h)) (hT.below (Below.next hbw2 h))
            have cP1 := fun W (h : Below wd.heap.size wd W) => devDepth_any _ hB1 x hx _ W (HT1.out W (Below.next hbx h)) (hE.next (Below.next hbw2 h))
            have cP0 := fun W (h : Below wd.heap.size wd W) => devDepth_any S hB x hx _ W (hv0.next (Below.next hbw2 h)) (hE.next (Below.next hbw2 h))
            have cU1 : ∀ W, Below wd.heap.size wd W → Calls Tryz.prog 25 #[.agg #[.int .i64 S.ver, .slice AE n cE, .slice AS m cS], .string (bs x)] W (UaP S x W) := fun W h => (devUses_any _ hB1 x hx _ W (HT1.out W (Below.next hbx h)) (hE.next (Below.next hbw2 h))).mono fun e w' ⟨v, l, e1, e2, e3, e4⟩ => ⟨v, l, e1, H1.usA_ hV hB hB1 hxs e2, e3, e4⟩
            have cU0 := fun W (h : Below wd.heap.size wd W) => devUses_any S hB x hx _ W (hv0.next (Below.next hbw2 h)) (hE.next (Below.next hbw2 h))
            rw [H1.dig_ hV hB hB1 hxs, HD0.out] at cD1
            rw [H2.dig_ hV hB hB2 hxs, HD0.out] at cD2
            rw [H1.depA_ hV hB hB1 hxs, HP0.out] at cP1
            rw [HP0.out] at cP0
            have s0 := R1.c 0 rfl
            have s1 := R1.c 1 rfl
            have s2 := R1.c 2 rfl
            have lw1 := R1.lt
            have t0 := T1.c 0 rfl
            have t1 := T1.c 1 rfl
            have t2 := T1.c 2 rfl
            have lw2 := T1.lt
            have m0 := M1.c 0 rfl
            have m1 := M1.c 1 rfl
            have m2 := M1.c 2 rfl
            have lw3 := M1.lt
            clear hx hxs
            go_upto_region 25 with (fail)
            refine wp_region_on (by kernel_rfl) (FF [(1, Fact.at_ wd (.pointer (some ⟨w.heap.size, 0, none⟩))), (3, Fact.at_ wd (.pointer (some ⟨g3, 0, none⟩))), (6, Fact.at_ wd (.pointer (some ⟨g6, 0, none⟩))), (12, Fact.at_ wd (.string (bs x))), (13, Fact.at_ wd (.int .u64 (d0 : Int))), (121, Fact.at_ wd (.agg #[.int .i64 S.ver, .slice AE n cE, .slice AS m cS])), (122, Fact.at_ wd (.string (bs x))), (123, Fact.at_ wd (.int .u64 (d0 : Int))), (124, Fact.at_ wd (.int .u64 (d0 : Int))), (125, Fact.at_ wd (.bool false)), (126, Fact.at_ wd (.bool false)), (127, Fact.at_ wd (.agg #[.int .i64 7, .slice A n c, .slice AS m cS])), (128, Fact.at_ wd (.string (bs x))), (129, Fact.at_ wd (.int .u64 (d0 : Int))), (130, Fact.at_ wd (.int .u64 (d0 : Int))), (131, Fact.at_ wd (.bool false)), (132, Fact.at_ wd (.bool false)), (133, Fact.at_ wd (.bool false)), (134, Fact.at_ wd (.agg #[.int .i64 S.ver, .slice AE n cE, .slice AS m cS])), (135, Fact.at_ wd (.string (bs x))), (136, Fact.at_ wd (.int .i64 (p0 : Int))), (137, Fact.at_ wd (.agg #[.int .i64 S.ver, .slice A n c, .slice (some a2) m c2])), (138, Fact.at_ wd (.string (bs x))), (139, Fact.at_ wd (.int .i64 (p0 : Int))), (140, Fact.at_ wd (.bool false)), (141, Fact.at_ wd (.bool false)), (142, Fact.at_ wd (.bool false)), (143, Fact.at_ wd (.agg #[.int .i64 S.ver, .slice AE n cE, .slice AS m cS])), (144, Fact.at_ wd (.string (bs x))), (145, FUa S x wd), (146, Fact.at_ wd (.agg #[.int .i64 S.ver, .slice A n c, .slice (some a2) m c2])), (147, Fact.at_ wd (.string (bs x))), (148, FUa S x wd), (149, Fact.at_ wd (.bool true)), (150, Fact.at_ wd (.bool false)), (151, Fact.at_ wd (.bool false))]) [1, 3, 6, 12, 13] 153 [121, 122, 123, 124, 125, 126, 127, 128, 129, 130, 131, 132, 133, 134, 135, 136, 137, 138, 139, 140, 141, 142, 143, 144, 145, 146, 147, 148, 149, 150, 151] rfl (by kernel_rfl) (by kernel_rfl) ?_ ?_ ?_
            · intro t9 ht9
              simp only [List.mem_cons, List.not_mem_nil, or_false] at ht9
              rcases ht9 with rfl | rfl | rfl | rfl | rfl
              · exact ⟨rfl, Below.refl _ _⟩
              · exact ⟨rfl, Below.refl _ _⟩
              · exact ⟨rfl, Below.refl _ _⟩
              · exact ⟨rfl, Below.refl _ _⟩
              · exact ⟨rfl, Below.refl _ _⟩
            · refine fcs ⟨at1 3 121 (.pointer (some ⟨g3, 0, none⟩)) (.agg #[.int .i64 S.ver, .slice AE n cE, .slice AS m cS]) rfl (by first | exact .inl rfl | exact .inr ⟨_, _, _, rfl, rfl, by kernel_rfl, by decide, rfl⟩) (by kernel_rfl) rfl rfl (fun a9 W9 hb9 h9 => by have g0 := cell_next hb9 t0; have g1 := cell_next hb9 t1; have g2 := cell_next hb9 t2; simp [execOp, h9] <;> go_simp), ?_⟩
              refine fcs ⟨atcopy 12 122 (.string (bs x)) (.inl rfl) rfl (by first | exact .inl rfl | exact .inr ⟨_, _, _, rfl, rfl, by kernel_rfl, by decide, rfl⟩) (by kernel_rfl) rfl rfl, ?_⟩
              refine fcs ⟨atc2 28 121 122 123 (.agg #[.int .i64 S.ver, .slice AE n cE, .slice AS m cS]) (.string (bs x)) (.int .u64 (d0 : Int)) _ rfl rfl (by first | exact .inl rfl | exact .inr ⟨_, _, _, rfl, rfl, by kernel_rfl, by decide, rfl⟩) (by kernel_rfl) (by kernel_rfl) rfl rfl (by kernel_rfl) rfl (fun W9 hb9 => cD1 W9 hb9), ?_⟩
              refine fcs ⟨atcopy 13 124 (.int .u64 (d0 : Int)) (.inl rfl) rfl (by first | exact .inl rfl | exact .inr ⟨_, _, _, rfl, rfl, by kernel_rfl, by decide, rfl⟩) (by kernel_rfl) rfl rfl, ?_⟩
              refine fcs ⟨at2 123 124 125 (.int .u64 (d0 : Int)) (.int .u64 (d0 : Int)) (.bool false) rfl (by first | exact .inl rfl | exact .inr ⟨_, _, _, rfl, rfl, by kernel_rfl, by decide, rfl⟩) (by kernel_rfl) (by kernel_rfl) rfl rfl rfl (fun a9 W9 hb9 h9 h8 => by simp [execOp, h9, h8] <;> go_simp), ?_⟩
              refine fcs ⟨atcopy 125 126 (.bool false) (.inl rfl) rfl (by first | exact .inl rfl | exact .inr ⟨_, _, _, rfl, rfl, by kernel_rfl, by decide, rfl⟩) (by kernel_rfl) rfl rfl, ?_⟩
              refine fcs ⟨at1 6 127 (.pointer (some ⟨g6, 0, none⟩)) (.agg #[.int .i64 7, .slice A n c, .slice AS m cS]) rfl (by first | exact .inl rfl | exact .inr ⟨_, _, _, rfl, rfl, by kernel_rfl, by decide, rfl⟩) (by kernel_rfl) rfl rfl (fun a9 W9 hb9 h9 => by have g0 := cell_next hb9 m0; have g1 := cell_next hb9 m1; have g2 := cell_next hb9 m2; simp [execOp, h9] <;> go_simp), ?_⟩
              refine fcs ⟨atcopy 12 128 (.string (bs x)) (.inl rfl) rfl (by first | exact .inl rfl | exact .inr ⟨_, _, _, rfl, rfl, by kernel_rfl, by decide, rfl⟩) (by kernel_rfl) rfl rfl, ?_⟩
              refine fcs ⟨atc2 28 127 128 129 (.agg #[.int .i64 7, .slice A n c, .slice AS m cS]) (.string (bs x)) (.int .u64 (d0 : Int)) _ rfl rfl (by first | exact .inl rfl | exact .inr ⟨_, _, _, rfl, rfl, by kernel_rfl, by decide, rfl⟩) (by kernel_rfl) (by kernel_rfl) rfl rfl (by kernel_rfl) rfl (fun W9 hb9 => cD2 W9 hb9), ?_⟩
              refine fcs ⟨atcopy 13 130 (.int .u64 (d0 : Int)) (.inl rfl) rfl (by first | exact .inl rfl | exact .inr ⟨_, _, _, rfl, rfl, by kernel_rfl, by decide, rfl⟩) (by kernel_rfl) rfl rfl, ?_⟩
              refine fcs ⟨at2 129 130 131 (.int .u64 (d0 : Int)) (.int .u64 (d0 : Int)) (.bool false) rfl (by first | exact .inl rfl | exact .inr ⟨_, _, _, rfl, rfl, by kernel_rfl, by decide, rfl⟩) (by kernel_rfl) (by kernel_rfl) rfl rfl rfl (fun a9 W9 hb9 h9 h8 => by simp [execOp, h9, h8] <;> go_simp), ?_⟩
              refine fcs ⟨atpick 126 131 132 false (.bool false) _ _ rfl rfl rfl (by first | exact .inl rfl | exact .inr ⟨_, _, _, rfl, rfl, by kernel_rfl, by decide, rfl⟩) (by kernel_rfl) (by kernel_rfl) rfl rfl rfl, ?_⟩
              refine fcs ⟨atcopy 132 133 (.bool false) (.inl rfl) rfl (by first | exact .inl rfl | exact .inr ⟨_, _, _, rfl, rfl, by kernel_rfl, by decide, rfl⟩) (by kernel_rfl) rfl rfl, ?_⟩
              refine fcs ⟨at1 3 134 (.pointer (some ⟨g3, 0, none⟩)) (.agg #[.int .i64 S.ver, .slice AE n cE, .slice AS m cS]) rfl (by first | exact .inl rfl | exact .inr ⟨_, _, _, rfl, rfl, by kernel_rfl, by decide, rfl⟩) (by kernel_rfl) rfl rfl (fun a9 W9 hb9 h9 => by have g0 := cell_next hb9 t0; have g1 := cell_next hb9 t1; have g2 := cell_next hb9 t2; simp [execOp, h9] <;> go_simp), ?_⟩
              refine fcs ⟨atcopy 12 135 (.string (bs x)) (.inl rfl) rfl (by first | exact .inl rfl | exact .inr ⟨_, _, _, rfl, rfl, by kernel_rfl, by decide, rfl⟩) (by kernel_rfl) rfl rfl, ?_⟩
              refine fcs ⟨atc2 22 134 135 136 (.agg #[.int .i64 S.ver, .slice AE n cE, .slice AS m cS]) (.string (bs x)) (.int .i64 (p0 : Int)) _ rfl rfl (by first | exact .inl rfl | exact .inr ⟨_, _, _, rfl, rfl, by kernel_rfl, by decide, rfl⟩) (by kernel_rfl) (by kernel_rfl) rfl rfl (by kernel_rfl) rfl (fun W9 hb9 => cP1 W9 hb9), ?_⟩
              refine fcs ⟨at1 1 137 (.pointer (some ⟨w.heap.size, 0, none⟩)) (.agg #[.int .i64 S.ver, .slice A n c, .slice (some a2) m c2]) rfl (by first | exact .inl rfl | exact .inr ⟨_, _, _, rfl, rfl, by kernel_rfl, by decide, rfl⟩) (by kernel_rfl) rfl rfl (fun a9 W9 hb9 h9 => by have g0 := cell_next hb9 s0; have g1 := cell_next hb9 s1; have g2 := cell_next hb9 s2; simp [execOp, h9] <;> go_simp), ?_⟩
              refine fcs ⟨atcopy 12 138 (.string (bs x)) (.inl rfl) rfl (by first | exact .inl rfl | exact .inr ⟨_, _, _, rfl, rfl, by kernel_rfl, by decide, rfl⟩) (by kernel_rfl) rfl rfl, ?_⟩
              refine fcs ⟨atc2 22 137 138 139 (.agg #[.int .i64 S.ver, .slice A n c, .slice (some a2) m c2]) (.string (bs x)) (.int .i64 (p0 : Int)) _ rfl rfl (by first | exact .inl rfl | exact .inr ⟨_, _, _, rfl, rfl, by kernel_rfl, by decide, rfl⟩) (by kernel_rfl) (by kernel_rfl) rfl rfl (by kernel_rfl) rfl (fun W9 hb9 => cP0 W9 hb9), ?_⟩
              refine fcs ⟨at2 136 139 140 (.int .i64 (p0 : Int)) (.int .i64 (p0 : Int)) (.bool false) rfl (by first | exact .inl rfl | exact .inr ⟨_, _, _, rfl, rfl, by kernel_rfl, by decide, rfl⟩) (by kernel_rfl) (by kernel_rfl) rfl rfl rfl (fun a9 W9 hb9 h9 h8 => by simp [execOp, h9, h8] <;> go_simp), ?_⟩
              refine fcs ⟨atpick 133 140 141 false (.bool false) _ _ rfl rfl rfl (by first | exact .inl rfl | exact .inr ⟨_, _, _, rfl, rfl, by kernel_rfl, by decide, rfl⟩) (by kernel_rfl) (by kernel_rfl) rfl rfl rfl, ?_⟩
              refine fcs ⟨atcopy 141 142 (.bool false) (.inl rfl) rfl (by first | exact .inl rfl | exact .inr ⟨_, _, _, rfl, rfl, by kernel_rfl, by decide, rfl⟩) (by kernel_rfl) rfl rfl, ?_⟩
              refine fcs ⟨at1 3 143 (.pointer (some ⟨g3, 0, none⟩)) (.agg #[.int .i64 S.ver, .slice AE n cE, .slice AS m cS]) rfl (by first | exact .inl rfl | exact .inr ⟨_, _, _, rfl, rfl, by kernel_rfl, by decide, rfl⟩) (by kernel_rfl) rfl rfl (fun a9 W9 hb9 h9 => by have g0 := cell_next hb9 t0; have g1 := cell_next hb9 t1; have g2 := cell_next hb9 t2; simp [execOp, h9] <;> go_simp), ?_⟩
              refine fcs ⟨atcopy 12 144 (.string (bs x)) (.inl rfl) rfl (by first | exact .inl rfl | exact .inr ⟨_, _, _, rfl, rfl, by kernel_rfl, by decide, rfl⟩) (by kernel_rfl) rfl rfl, ?_⟩
              refine fcs ⟨at_enter (W0 := wd) (by first | exact .inl rfl | exact .inr ⟨_, _, _, rfl, rfl, by kernel_rfl, by decide, rfl⟩) (fun a9 W9 hf9 => by have p143 := hf9 143 (by kernel_rfl); have q143 : a9.tmps.getD 143 undef = (.agg #[.int .i64 S.ver, .slice AE n cE, .slice AS m cS]) := p143.1; have p144 := hf9 144 (by kernel_rfl); have q144 : a9.tmps.getD 144 undef = (.string (bs x)) := p144.1; have hb9 := p143.2; exact ⟨25, #[(.agg #[.int .i64 S.ver, .slice AE n cE, .slice AS m cS]), (.string (bs x))], by rw [← q143, ← q144]; simpa [execOp, resolve, Act.eval] using run_invoke (by kernel_rfl) _ W9, (cU1 W9 p143.2).mono fun e w' ⟨v, l, e1, e2, e3, e4⟩ => ⟨v, e1, e4, fun s hs => by injection hs with hs; subst hs; exact ⟨l, e2, e3, upG hb9 e4⟩⟩⟩), ?_⟩
              refine fcs ⟨at1 1 146 (.pointer (some ⟨w.heap.size, 0, none⟩)) (.agg #[.int .i64 S.ver, .slice A n c, .slice (some a2) m c2]) rfl (by first | exact .inl rfl | exact .inr ⟨_, _, _, rfl, rfl, by kernel_rfl, by decide, rfl⟩) (by kernel_rfl) rfl rfl (fun a9 W9 hb9 h9 => by have g0 := cell_next hb9 s0; have g1 := cell_next hb9 s1; have g2 := cell_next hb9 s2; simp [execOp, h9] <;> go_simp), ?_⟩
              refine fcs ⟨atcopy 12 147 (.string (bs x)) (.inl rfl) rfl (by first | exact .inl rfl | exact .inr ⟨_, _, _, rfl, rfl, by kernel_rfl, by decide, rfl⟩) (by kernel_rfl) rfl rfl, ?_⟩
              refine fcs ⟨at_enter (W0 := wd) (by first | exact .inl rfl | exact .inr ⟨_, _, _, rfl, rfl, by kernel_rfl, by decide, rfl⟩) (fun a9 W9 hf9 => by have p146 := hf9 146 (by kernel_rfl); have q146 : a9.tmps.getD 146 undef = (.agg #[.int .i64 S.ver, .slice A n c, .slice (some a2) m c2]) := p146.1; have p147 := hf9 147 (by kernel_rfl); have q147 : a9.tmps.getD 147 undef = (.string (bs x)) := p147.1; have hb9 := p146.2; exact ⟨25, #[(.agg #[.int .i64 S.ver, .slice A n c, .slice (some a2) m c2]), (.string (bs x))], by rw [← q146, ← q147]; simpa [execOp, resolve, Act.eval] using run_invoke (by kernel_rfl) _ W9, (cU0 W9 p146.2).mono fun e w' ⟨v, l, e1, e2, e3, e4⟩ => ⟨v, e1, e4, fun s hs => by injection hs with hs; subst hs; exact ⟨l, e2, e3, upG hb9 e4⟩⟩⟩), ?_⟩
              refine fcs ⟨at_enter (W0 := wd) (by first | exact .inl rfl | exact .inr ⟨_, _, _, rfl, rfl, by kernel_rfl, by decide, rfl⟩) (fun a9 W9 hf9 => by obtain ⟨l, u1, u2, u3⟩ := hf9 145 (by kernel_rfl); obtain ⟨l', k1, k2, k3⟩ := hf9 148 (by kernel_rfl); obtain rfl := u1.one k1; have cN := lawNames_any l l _ _ W9 (u1.short hB) (u1.short hB) u2 k2; rw [decide_eq_true rfl] at cN; exact ⟨24, #[a9.tmps.getD 145 undef, a9.tmps.getD 148 undef], by simpa [execOp, resolve, Act.eval] using run_invoke (by kernel_rfl) _ W9, cN.mono fun e w' ⟨e1, e2⟩ => ⟨.bool true, e1, e2, fun s hs => by injection hs with hs; subst hs; exact ⟨rfl, upG u3 e2⟩⟩⟩), ?_⟩
              refine fcs ⟨at1 149 150 (.bool true) (.bool false) rfl (by first | exact .inl rfl | exact .inr ⟨_, _, _, rfl, rfl, by kernel_rfl, by decide, rfl⟩) (by kernel_rfl) rfl rfl (fun a9 W9 hb9 h9 => by simp [execOp, h9] <;> go_simp), ?_⟩
              refine fcs ⟨atpick 142 150 151 false (.bool false) _ _ rfl rfl rfl (by first | exact .inl rfl | exact .inr ⟨_, _, _, rfl, rfl, by kernel_rfl, by decide, rfl⟩) (by kernel_rfl) (by kernel_rfl) rfl rfl rfl, ?_⟩
              exact fnl
            intro vv wv hvv hbv
            have hv151 : vv 151 = (.bool false) := (hvv 151 (by decide)).1
            simp only [lay, List.foldl_cons, List.foldl_nil, List.setIfInBounds_toArray, List.set_cons_succ, List.set_cons_zero, hv151]
            have hb7 := Below.next hbx hbv
            have Q1 := R1.next hbv
            have Q2 := T1.next hbv
            have Q3 := M1.next hbv
            clear hvv cD1 cD2 cP1 cP0 cU1 cU0 s0 s1 s2 lw1 t0 t1 t2 lw2 m0 m1 m2 lw3 R1 T1 M1
            go_wp2_with fail
            go_roundw
            case rel => exact ⟨k + 1, by omega, by go_num, Q1, Q2, Q3, hb7⟩
            case measure => simp [intOf]; omega
          · obtain rfl : k = m := by omega
            go_wp2_with fail
            refine (awake_any _ (hE.next hbw)).mono ?_
            rintro e wz ⟨rfl, hbz⟩
            go_wp2_with fail
            go_ret
            exact ⟨rfl, Below.next hbw hbz⟩
      have s1 := R7.c 1 rfl
      have s2 := R7.c 2 rfl
      have s0 := R7.c 0 rfl
      have lw1 := R7.lt
      by_cases h16 : n + m < 16
      case neg =>
        have e16 : decide (((n : Int) + (m : Int)) < 16) = false := by rw [decide_eq_false_iff_not]; omega
        have hcur := Below.next hb9 k7
        have hcw := Below.next hk67 k7
        have Rc := R7.next k7
        have Tc := T7.next k7
        have Mc := M7.next k7
        have hEf : ([] : List St) = [] ∨ ([] : List St) = [zst] := .inl rfl
        have hEx : ([] : List St) = [] ∨ ([] : List St) = [zst] ∧ zst.name ∉ sns S ∧ zst.name ∉ ens S ∧ S.enums.length + S.structs.length < 16 := .inl rfl
        have hVm0 : ∀ W, Below wr.heap.size wr W → ScV W ⟨7, S.enums, S.structs.reverse ++ []⟩ (.agg #[.int .i64 7, .slice A n c, .slice AS m cS]) := fun W h => ⟨A, c, AS, cS, by show _ = Value.agg #[_, .slice A S.enums.length c, .slice AS (S.structs.reverse ++ []).length cS]; rw [List.append_nil, List.length_reverse, HN.out, HM.out], hSe.next fun _ _ => EnA.next (Below.next hb h), by show Rw StA 2 W (S.structs.reverse ++ []) AS; rw [List.append_nil]; exact hRS.next fun _ _ => StA.next h⟩
        have hVm := fun W h => hVm0 W (Below.next hcw h)
        clear hVm0
        have hB2 := few_more hB hl16 (E := []) hEf
        have H2 := like_more hl16 (E := []) hEx
        have cC2 : ∀ W, Below w.heap.size w W → (ScV W ⟨7, S.enums, S.structs.reverse ++ []⟩ (.agg #[.int .i64 7, .slice A n c, .slice AS m cS])) → Calls Tryz.prog 11 #[.agg #[.int .i64 7, .slice A n c, .slice AS m cS]] W (Ib (.int .i64 0) W) := fun W h hs => by
          have c := check_any _ hB2 (.agg #[.int .i64 7, .slice A n c, .slice AS m cS]) W hs (hE.next h)
          rw [(H2.vld hV hB hB2).chk_] at c
          exact c
        have t0 := Tc.c 0 rfl
        have t1 := Tc.c 1 rfl
        have t2 := Tc.c 2 rfl
        have t3 := Tc.lt
        go_wp2_with fail
        refine (cC1 _ hcw).mono ?_
        rintro e wa ⟨rfl, hba⟩
        replace Mc := Mc.next hba
        have m0 := Mc.c 0 rfl
        have m1 := Mc.c 1 rfl
        have m2 := Mc.c 2 rfl
        have m3 := Mc.lt
        have cC3 := cC2 wa (Below.next hcur hba) (hVm wa hba)
        clear t0 t1 t2 t3 cC1 cC2
        go_wp2_with fail
        refine cC3.mono ?_
        rintro e wb ⟨rfl, hbb⟩
        replace Mc := Mc.next hbb
        replace Rc := (Rc.next hba).next hbb
        replace Tc := (Tc.next hba).next hbb
        replace hcur := Below.next (Below.next hcur hba) hbb
        replace hcw := Below.next (Below.next hcw hba) hbb
        replace hVm : ∀ W, Below wb.heap.size wb W → ScV W ⟨7, S.enums, S.structs.reverse ++ []⟩ (.agg #[.int .i64 7, .slice A n c, .slice AS m cS]) := fun W h => hVm W (Below.next (Below.next hba hbb) h)
        replace HT1 : Hid (∀ W, Below wb.heap.size wb W → ScV W ⟨S.ver, S.enums.reverse, S.structs.reverse⟩ (.agg #[.int .i64 S.ver, .slice AE n cE, .slice AS m cS])) := Lib.hid fun W h => HT1.out W (Below.next hcw h)
        clear cC3 m0 m1 m2 m3 hba hbb
        go_wp2_with fail
        go_loopw [11] (fun i_ wr => ∃ k : Nat, k ≤ m ∧ i_ = .int .i64 (k : Int) ∧ Bx wr w.heap.size [.int .i64 S.ver, .slice A n c, .slice A2 m c2] ∧ Bx wr g3 [.int .i64 S.ver, .slice AE n cE, .slice AS m cS] ∧ Bx wr g6 [.int .i64 7, .slice A n c, .slice AS m cS] ∧ Below wb.heap.size wb wr) (fun i_ _ => m - (intOf i_).toNat)
        case atStart => exact ⟨0, by omega, rfl, Rc, Tc, Mc, Below.refl _ _⟩
        case round =>
          clear Rc Tc Mc
          obtain ⟨k, hk, rfl, R1, T1, M1, hb⟩ := hrel
          have s0 := R1.c 0 rfl
          have s1 := R1.c 1 rfl
          have s2 := R1.c 2 rfl
          have lw1 := R1.lt
          have hbw := Below.next hcur hb
          by_cases hlt : k < m
          · have hkm : k < S.structs.length := by rw [HM.out]; exact hlt
            obtain ⟨a2, rfl, hA⟩ := hSs.get hkm
            have x0 := cell_next hbw hA.1
            have hblk : (a2.add (k * 2)).block < wr.heap.size := blk_lt x0
            have hx := (hB.st _ (List.getElem_mem hkm)).1
            have hxs : (S.structs[k]'hkm).name ∈ sns S := List.mem_map.2 ⟨_, List.getElem_mem hkm, rfl⟩
            generalize (S.structs[k]'hkm).name = x at *
            replace hx : x.length ≤ 9223372036854775807 := Nat.le_trans hx (by decide)
            have cD0 := devDigest_any S hB x hx _ wr (hv0.next hbw) (hE.next hbw) (hT.below hbw)
            obtain ⟨d0, hd0⟩ : ∃ d, dig S x = d := ⟨_, rfl⟩
            obtain ⟨p0, hp0⟩ : ∃ d, depA S x = d := ⟨_, rfl⟩
            rw [hd0] at cD0
            have HD0 := Lib.hid hd0
            have HP0 := Lib.hid hp0
            clear hA hd0 hp0
            go_wp2_with fail
            refine cD0.mono ?_
            rintro e wd ⟨rfl, hbd⟩
            replace R1 := R1.next hbd
            replace T1 := T1.next hbd
            replace M1 := M1.next hbd
            have hbw2 := Below.next hbw hbd
            have hbx := Below.next hb hbd
            clear cD0 s0 s1 s2 lw1 x0 hblk
            have cD1 := fun W (h : Below wd.heap.size wd W) => devDigest_any _ hB1 x hx _ W (HT1.out W (Below.next hbx h)) (hE.next (Below.next hbw2 h)) (hT.below (Below.next hbw2 h))
            have cD2 := fun W (h : Below wd.heap.size wd W) => devDigest_any _ hB2 x hx _ W (hVm W (Below.next hbx h)) (hE.next (Below.next hbw2 h)) (hT.below (Below.next hbw2 h))
            have cP1 := fun W (h : Below wd.heap.size wd W) => devDepth_any _ hB1 x hx _ W (HT1.out W (Below.next hbx h)) (hE.next (Below.next hbw2 h))
            have cP0 := fun W (h : Below wd.heap.size wd W) => devDepth_any S hB x hx _ W (hv0.next (Below.next hbw2 h)) (hE.next (Below.next hbw2 h))
            have cU1 : ∀ W, Below wd.heap.size wd W → Calls Tryz.prog 25 #[.agg #[.int .i64 S.ver, .slice AE n cE, .slice AS m cS], .string (bs x)] W (UaP S x W) := fun W h => (devUses_any _ hB1 x hx _ W (HT1.out W (Below.next hbx h)) (hE.next (Below.next hbw2 h))).mono fun e w' ⟨v, l, e1, e2, e3, e4⟩ => ⟨v, l, e1, H1.usA_ hV hB hB1 hxs e2, e3, e4⟩
            have cU0 := fun W (h : Below wd.heap.size wd W) => devUses_any S hB x hx _ W (hv0.next (Below.next hbw2 h)) (hE.next (Below.next hbw2 h))
            rw [H1.dig_ hV hB hB1 hxs, HD0.out] at cD1
            rw [H2.dig_ hV hB hB2 hxs, HD0.out] at cD2
            rw [H1.depA_ hV hB hB1 hxs, HP0.out] at cP1
            rw [HP0.out] at cP0
            have s0 := R1.c 0 rfl
            have s1 := R1.c 1 rfl
            have s2 := R1.c 2 rfl
            have lw1 := R1.lt
            have t0 := T1.c 0 rfl
            have t1 := T1.c 1 rfl
            have t2 := T1.c 2 rfl
            have lw2 := T1.lt
            have m0 := M1.c 0 rfl
            have m1 := M1.c 1 rfl
            have m2 := M1.c 2 rfl
            have lw3 := M1.lt
            clear hx hxs
            go_upto_region 25 with (fail)
            refine wp_region_on (by kernel_rfl) (FF [(1, Fact.at_ wd (.pointer (some ⟨w.heap.size, 0, none⟩))), (3, Fact.at_ wd (.pointer (some ⟨g3, 0, none⟩))), (6, Fact.at_ wd (.pointer (some ⟨g6, 0, none⟩))), (12, Fact.at_ wd (.string (bs x))), (13, Fact.at_ wd (.int .u64 (d0 : Int))), (121, Fact.at_ wd (.agg #[.int .i64 S.ver, .slice AE n cE, .slice AS m cS])), (122, Fact.at_ wd (.string (bs x))), (123, Fact.at_ wd (.int .u64 (d0 : Int))), (124, Fact.at_ wd (.int .u64 (d0 : Int))), (125, Fact.at_ wd (.bool false)), (126, Fact.at_ wd (.bool false)), (127, Fact.at_ wd (.agg #[.int .i64 7, .slice A n c, .slice AS m cS])), (128, Fact.at_ wd (.string (bs x))), (129, Fact.at_ wd (.int .u64 (d0 : Int))), (130, Fact.at_ wd (.int .u64 (d0 : Int))), (131, Fact.at_ wd (.bool false)), (132, Fact.at_ wd (.bool false)), (133, Fact.at_ wd (.bool false)), (134, Fact.at_ wd (.agg #[.int .i64 S.ver, .slice AE n cE, .slice AS m cS])), (135, Fact.at_ wd (.string (bs x))), (136, Fact.at_ wd (.int .i64 (p0 : Int))), (137, Fact.at_ wd (.agg #[.int .i64 S.ver, .slice A n c, .slice (some a2) m c2])), (138, Fact.at_ wd (.string (bs x))), (139, Fact.at_ wd (.int .i64 (p0 : Int))), (140, Fact.at_ wd (.bool false)), (141, Fact.at_ wd (.bool false)), (142, Fact.at_ wd (.bool false)), (143, Fact.at_ wd (.agg #[.int .i64 S.ver, .slice AE n cE, .slice AS m cS])), (144, Fact.at_ wd (.string (bs x))), (145, FUa S x wd), (146, Fact.at_ wd (.agg #[.int .i64 S.ver, .slice A n c, .slice (some a2) m c2])), (147, Fact.at_ wd (.string (bs x))), (148, FUa S x wd), (149, Fact.at_ wd (.bool true)), (150, Fact.at_ wd (.bool false)), (151, Fact.at_ wd (.bool false))]) [1, 3, 6, 12, 13] 153 [121, 122, 123, 124, 125, 126, 127, 128, 129, 130, 131, 132, 133, 134, 135, 136, 137, 138, 139, 140, 141, 142, 143, 144, 145, 146, 147, 148, 149, 150, 151] rfl (by kernel_rfl) (by kernel_rfl) ?_ ?_ ?_
            · intro t9 ht9
              simp only [List.mem_cons, List.not_mem_nil, or_false] at ht9
              rcases ht9 with rfl | rfl | rfl | rfl | rfl
              · exact ⟨rfl, Below.refl _ _⟩
              · exact ⟨rfl, Below.refl _ _⟩
              · exact ⟨rfl, Below.refl _ _⟩
              · exact ⟨rfl, Below.refl _ _⟩
              · exact ⟨rfl, Below.refl _ _⟩
            · refine fcs ⟨at1 3 121 (.pointer (some ⟨g3, 0, none⟩)) (.agg #[.int .i64 S.ver, .slice AE n cE, .slice AS m cS]) rfl (by first | exact .inl rfl | exact .inr ⟨_, _, _, rfl, rfl, by kernel_rfl, by decide, rfl⟩) (by kernel_rfl) rfl rfl (fun a9 W9 hb9 h9 => by have g0 := cell_next hb9 t0; have g1 := cell_next hb9 t1; have g2 := cell_next hb9 t2; simp [execOp, h9] <;> go_simp), ?_⟩
              refine fcs ⟨atcopy 12 122 (.string (bs x)) (.inl rfl) rfl (by first | exact .inl rfl | exact .inr ⟨_, _, _, rfl, rfl, by kernel_rfl, by decide, rfl⟩) (by kernel_rfl) rfl rfl, ?_⟩
              refine fcs ⟨atc2 28 121 122 123 (.agg #[.int .i64 S.ver, .slice AE n cE, .slice AS m cS]) (.string (bs x)) (.int .u64 (d0 : Int)) _ rfl rfl (by first | exact .inl rfl | exact .inr ⟨_, _, _, rfl, rfl, by kernel_rfl, by decide, rfl⟩) (by kernel_rfl) (by kernel_rfl) rfl rfl (by kernel_rfl) rfl (fun W9 hb9 => cD1 W9 hb9), ?_⟩
              refine fcs ⟨atcopy 13 124 (.int .u64 (d0 : Int)) (.inl rfl) rfl (by first | exact .inl rfl | exact .inr ⟨_, _, _, rfl, rfl, by kernel_rfl, by decide, rfl⟩) (by kernel_rfl) rfl rfl, ?_⟩
              refine fcs ⟨at2 123 124 125 (.int .u64 (d0 : Int)) (.int .u64 (d0 : Int)) (.bool false) rfl (by first | exact .inl rfl | exact .inr ⟨_, _, _, rfl, rfl, by kernel_rfl, by decide, rfl⟩) (by kernel_rfl) (by kernel_rfl) rfl rfl rfl (fun a9 W9 hb9 h9 h8 => by simp [execOp, h9, h8] <;> go_simp), ?_⟩
              refine fcs ⟨atcopy 125 126 (.bool false) (.inl rfl) rfl (by first | exact .inl rfl | exact .inr ⟨_, _, _, rfl, rfl, by kernel_rfl, by decide, rfl⟩) (by kernel_rfl) rfl rfl, ?_⟩
              refine fcs ⟨at1 6 127 (.pointer (some ⟨g6, 0, none⟩)) (.agg #[.int .i64 7, .slice A n c, .slice AS m cS]) rfl (by first | exact .inl rfl | exact .inr ⟨_, _, _, rfl, rfl, by kernel_rfl, by decide, rfl⟩) (by kernel_rfl) rfl rfl (fun a9 W9 hb9 h9 => by have g0 := cell_next hb9 m0; have g1 := cell_next hb9 m1; have g2 := cell_next hb9 m2; simp [execOp, h9] <;> go_simp), ?_⟩
              refine fcs ⟨atcopy 12 128 (.string (bs x)) (.inl rfl) rfl (by first | exact .inl rfl | exact .inr ⟨_, _, _, rfl, rfl, by kernel_rfl, by decide, rfl⟩) (by kernel_rfl) rfl rfl, ?_⟩
              refine fcs ⟨atc2 28 127 128 129 (.agg #[.int .i64 7, .slice A n c, .slice AS m cS]) (.string (bs x)) (.int .u64 (d0 : Int)) _ rfl rfl (by first | exact .inl rfl | exact .inr ⟨_, _, _, rfl, rfl, by kernel_rfl, by decide, rfl⟩) (by kernel_rfl) (by kernel_rfl) rfl rfl (by kernel_rfl) rfl (fun W9 hb9 => cD2 W9 hb9), ?_⟩
              refine fcs ⟨atcopy 13 130 (.int .u64 (d0 : Int)) (.inl rfl) rfl (by first | exact .inl rfl | exact .inr ⟨_, _, _, rfl, rfl, by kernel_rfl, by decide, rfl⟩) (by kernel_rfl) rfl rfl, ?_⟩
              refine fcs ⟨at2 129 130 131 (.int .u64 (d0 : Int)) (.int .u64 (d0 : Int)) (.bool false) rfl (by first | exact .inl rfl | exact .inr ⟨_, _, _, rfl, rfl, by kernel_rfl, by decide, rfl⟩) (by kernel_rfl) (by kernel_rfl) rfl rfl rfl (fun a9 W9 hb9 h9 h8 => by simp [execOp, h9, h8] <;> go_simp), ?_⟩
              refine fcs ⟨atpick 126 131 132 false (.bool false) _ _ rfl rfl rfl (by first | exact .inl rfl | exact .inr ⟨_, _, _, rfl, rfl, by kernel_rfl, by decide, rfl⟩) (by kernel_rfl) (by kernel_rfl) rfl rfl rfl, ?_⟩
              refine fcs ⟨atcopy 132 133 (.bool false) (.inl rfl) rfl (by first | exact .inl rfl | exact .inr ⟨_, _, _, rfl, rfl, by kernel_rfl, by decide, rfl⟩) (by kernel_rfl) rfl rfl, ?_⟩
              refine fcs ⟨at1 3 134 (.pointer (some ⟨g3, 0, none⟩)) (.agg #[.int .i64 S.ver, .slice AE n cE, .slice AS m cS]) rfl (by first | exact .inl rfl | exact .inr ⟨_, _, _, rfl, rfl, by kernel_rfl, by decide, rfl⟩) (by kernel_rfl) rfl rfl (fun a9 W9 hb9 h9 => by have g0 := cell_next hb9 t0; have g1 := cell_next hb9 t1; have g2 := cell_next hb9 t2; simp [execOp, h9] <;> go_simp), ?_⟩
              refine fcs ⟨atcopy 12 135 (.string (bs x)) (.inl rfl) rfl (by first | exact .inl rfl | exact .inr ⟨_, _, _, rfl, rfl, by kernel_rfl, by decide, rfl⟩) (by kernel_rfl) rfl rfl, ?_⟩
              refine fcs ⟨atc2 22 134 135 136 (.agg #[.int .i64 S.ver, .slice AE n cE, .slice AS m cS]) (.string (bs x)) (.int .i64 (p0 : Int)) _ rfl rfl (by first | exact .inl rfl | exact .inr ⟨_, _, _, rfl, rfl, by kernel_rfl, by decide, rfl⟩) (by kernel_rfl) (by kernel_rfl) rfl rfl (by kernel_rfl) rfl (fun W9 hb9 => cP1 W9 hb9), ?_⟩
              refine fcs ⟨at1 1 137 (.pointer (some ⟨w.heap.size, 0, none⟩)) (.agg #[.int .i64 S.ver, .slice A n c, .slice (some a2) m c2]) rfl (by first | exact .inl rfl | exact .inr ⟨_, _, _, rfl, rfl, by kernel_rfl, by decide, rfl⟩) (by kernel_rfl) rfl rfl (fun a9 W9 hb9 h9 => by have g0 := cell_next hb9 s0; have g1 := cell_next hb9 s1; have g2 := cell_next hb9 s2; simp [execOp, h9] <;> go_simp), ?_⟩
              refine fcs ⟨atcopy 12 138 (.string (bs x)) (.inl rfl) rfl (by first | exact .inl rfl | exact .inr ⟨_, _, _, rfl, rfl, by kernel_rfl, by decide, rfl⟩) (by kernel_rfl) rfl rfl, ?_⟩
              refine fcs ⟨atc2 22 137 138 139 (.agg #[.int .i64 S.ver, .slice A n c, .slice (some a2) m c2]) (.string (bs x)) (.int .i64 (p0 : Int)) _ rfl rfl (by first | exact .inl rfl | exact .inr ⟨_, _, _, rfl, rfl, by kernel_rfl, by decide, rfl⟩) (by kernel_rfl) (by kernel_rfl) rfl rfl (by kernel_rfl) rfl (fun W9 hb9 => cP0 W9 hb9), ?_⟩
              refine fcs ⟨at2 136 139 140 (.int .i64 (p0 : Int)) (.int .i64 (p0 : Int)) (.bool false) rfl (by first | exact .inl rfl | exact .inr ⟨_, _, _, rfl, rfl, by kernel_rfl, by decide, rfl⟩) (by kernel_rfl) (by kernel_rfl) rfl rfl rfl (fun a9 W9 hb9 h9 h8 => by simp [execOp, h9, h8] <;> go_simp), ?_⟩
              refine fcs ⟨atpick 133 140 141 false (.bool false) _ _ rfl rfl rfl (by first | exact .inl rfl | exact .inr ⟨_, _, _, rfl, rfl, by kernel_rfl, by decide, rfl⟩) (by kernel_rfl) (by kernel_rfl) rfl rfl rfl, ?_⟩
              refine fcs ⟨atcopy 141 142 (.bool false) (.inl rfl) rfl (by first | exact .inl rfl | exact .inr ⟨_, _, _, rfl, rfl, by kernel_rfl, by decide, rfl⟩) (by kernel_rfl) rfl rfl, ?_⟩
              refine fcs ⟨at1 3 143 (.pointer (some ⟨g3, 0, none⟩)) (.agg #[.int .i64 S.ver, .slice AE n cE, .slice AS m cS]) rfl (by first | exact .inl rfl | exact .inr ⟨_, _, _, rfl, rfl, by kernel_rfl, by decide, rfl⟩) (by kernel_rfl) rfl rfl (fun a9 W9 hb9 h9 => by have g0 := cell_next hb9 t0; have g1 := cell_next hb9 t1; have g2 := cell_next hb9 t2; simp [execOp, h9] <;> go_simp), ?_⟩
              refine fcs ⟨atcopy 12 144 (.string (bs x)) (.inl rfl) rfl (by first | exact .inl rfl | exact .inr ⟨_, _, _, rfl, rfl, by kernel_rfl, by decide, rfl⟩) (by kernel_rfl) rfl rfl, ?_⟩
              refine fcs ⟨at_enter (W0 := wd) (by first | exact .inl rfl | exact .inr ⟨_, _, _, rfl, rfl, by kernel_rfl, by decide, rfl⟩) (fun a9 W9 hf9 => by have p143 := hf9 143 (by kernel_rfl); have q143 : a9.tmps.getD 143 undef = (.agg #[.int .i64 S.ver, .slice AE n cE, .slice AS m cS]) := p143.1; have p144 := hf9 144 (by kernel_rfl); have q144 : a9.tmps.getD 144 undef = (.string (bs x)) := p144.1; have hb9 := p143.2; exact ⟨25, #[(.agg #[.int .i64 S.ver, .slice AE n cE, .slice AS m cS]), (.string (bs x))], by rw [← q143, ← q144]; simpa [execOp, resolve, Act.eval] using run_invoke (by kernel_rfl) _ W9, (cU1 W9 p143.2).mono fun e w' ⟨v, l, e1, e2, e3, e4⟩ => ⟨v, e1, e4, fun s hs => by injection hs with hs; subst hs; exact ⟨l, e2, e3, upG hb9 e4⟩⟩⟩), ?_⟩
              refine fcs ⟨at1 1 146 (.pointer (some ⟨w.heap.size, 0, none⟩)) (.agg #[.int .i64 S.ver, .slice A n c, .slice (some a2) m c2]) rfl (by first | exact .inl rfl | exact .inr ⟨_, _, _, rfl, rfl, by kernel_rfl, by decide, rfl⟩) (by kernel_rfl) rfl rfl (fun a9 W9 hb9 h9 => by have g0 := cell_next hb9 s0; have g1 := cell_next hb9 s1; have g2 := cell_next hb9 s2; simp [execOp, h9] <;> go_simp), ?_⟩
              refine fcs ⟨atcopy 12 147 (.string (bs x)) (.inl rfl) rfl (by first | exact .inl rfl | exact .inr ⟨_, _, _, rfl, rfl, by kernel_rfl, by decide, rfl⟩) (by kernel_rfl) rfl rfl, ?_⟩
              refine fcs ⟨at_enter (W0 := wd) (by first | exact .inl rfl | exact .inr ⟨_, _, _, rfl, rfl, by kernel_rfl, by decide, rfl⟩) (fun a9 W9 hf9 => by have p146 := hf9 146 (by kernel_rfl); have q146 : a9.tmps.getD 146 undef = (.agg #[.int .i64 S.ver, .slice A n c, .slice (some a2) m c2]) := p146.1; have p147 := hf9 147 (by kernel_rfl); have q147 : a9.tmps.getD 147 undef = (.string (bs x)) := p147.1; have hb9 := p146.2; exact ⟨25, #[(.agg #[.int .i64 S.ver, .slice A n c, .slice (some a2) m c2]), (.string (bs x))], by rw [← q146, ← q147]; simpa [execOp, resolve, Act.eval] using run_invoke (by kernel_rfl) _ W9, (cU0 W9 p146.2).mono fun e w' ⟨v, l, e1, e2, e3, e4⟩ => ⟨v, e1, e4, fun s hs => by injection hs with hs; subst hs; exact ⟨l, e2, e3, upG hb9 e4⟩⟩⟩), ?_⟩
              refine fcs ⟨at_enter (W0 := wd) (by first | exact .inl rfl | exact .inr ⟨_, _, _, rfl, rfl, by kernel_rfl, by decide, rfl⟩) (fun a9 W9 hf9 => by obtain ⟨l, u1, u2, u3⟩ := hf9 145 (by kernel_rfl); obtain ⟨l', k1, k2, k3⟩ := hf9 148 (by kernel_rfl); obtain rfl := u1.one k1; have cN := lawNames_any l l _ _ W9 (u1.short hB) (u1.short hB) u2 k2; rw [decide_eq_true rfl] at cN; exact ⟨24, #[a9.tmps.getD 145 undef, a9.tmps.getD 148 undef], by simpa [execOp, resolve, Act.eval] using run_invoke (by kernel_rfl) _ W9, cN.mono fun e w' ⟨e1, e2⟩ => ⟨.bool true, e1, e2, fun s hs => by injection hs with hs; subst hs; exact ⟨rfl, upG u3 e2⟩⟩⟩), ?_⟩
              refine fcs ⟨at1 149 150 (.bool true) (.bool false) rfl (by first | exact .inl rfl | exact .inr ⟨_, _, _, rfl, rfl, by kernel_rfl, by decide, rfl⟩) (by kernel_rfl) rfl rfl (fun a9 W9 hb9 h9 => by simp [execOp, h9] <;> go_simp), ?_⟩
              refine fcs ⟨atpick 142 150 151 false (.bool false) _ _ rfl rfl rfl (by first | exact .inl rfl | exact .inr ⟨_, _, _, rfl, rfl, by kernel_rfl, by decide, rfl⟩) (by kernel_rfl) (by kernel_rfl) rfl rfl rfl, ?_⟩
              exact fnl
            intro vv wv hvv hbv
            have hv151 : vv 151 = (.bool false) := (hvv 151 (by decide)).1
            simp only [lay, List.foldl_cons, List.foldl_nil, List.setIfInBounds_toArray, List.set_cons_succ, List.set_cons_zero, hv151]
            have hb7 := Below.next hbx hbv
            have Q1 := R1.next hbv
            have Q2 := T1.next hbv
            have Q3 := M1.next hbv
            clear hvv cD1 cD2 cP1 cP0 cU1 cU0 s0 s1 s2 lw1 t0 t1 t2 lw2 m0 m1 m2 lw3 R1 T1 M1
            go_wp2_with fail
            go_roundw
            case rel => exact ⟨k + 1, by omega, by go_num, Q1, Q2, Q3, hb7⟩
            case measure => simp [intOf]; omega
          · obtain rfl : k = m := by omega
            go_wp2_with fail
            refine (awake_any _ (hE.next hbw)).mono ?_
            rintro e wz ⟨rfl, hbz⟩
            go_wp2_with fail
            go_ret
            exact ⟨rfl, Below.next hbw hbz⟩
      have e16 : decide (((n : Int) + (m : Int)) < 16) = true := by rw [decide_eq_true_eq]; omega
      go_wp2_with fail
      refine (cZE _ (Below.next hb9 k7)).mono ?_
      rintro e w8 ⟨u, rfl, ⟨A9, c9, A91, c91, rfl, -, -⟩, hb8⟩
      have k8 := ab1 w8 (Obj.cells #[.string (bs ez.name), .slice A9 ez.names.length c9, .slice A91 ez.nums.length c91] 38)
      have hb10 := Below.next (Below.next hb9 k7) hb8
      clear s0 s1 s2 lw1 cZE
      have M8 := (M7.next k7).next hb8
      have R8 := (R7.next k7).next hb8
      have T8 := (T7.next k7).next hb8
      have hk68 := Below.next (Below.next hk67 k7) hb8
      cases be
      case true =>
        have hcur := Below.next hb10 k8
        have hcw := Below.next hk68 k8
        have Rc := R8.next k8
        have Tc := T8.next k8
        have Mc := M8.next k8
        have hEf : ([] : List St) = [] ∨ ([] : List St) = [zst] := .inl rfl
        have hEx : ([] : List St) = [] ∨ ([] : List St) = [zst] ∧ zst.name ∉ sns S ∧ zst.name ∉ ens S ∧ S.enums.length + S.structs.length < 16 := .inl rfl
        have hVm0 : ∀ W, Below wr.heap.size wr W → ScV W ⟨7, S.enums, S.structs.reverse ++ []⟩ (.agg #[.int .i64 7, .slice A n c, .slice AS m cS]) := fun W h => ⟨A, c, AS, cS, by show _ = Value.agg #[_, .slice A S.enums.length c, .slice AS (S.structs.reverse ++ []).length cS]; rw [List.append_nil, List.length_reverse, HN.out, HM.out], hSe.next fun _ _ => EnA.next (Below.next hb h), by show Rw StA 2 W (S.structs.reverse ++ []) AS; rw [List.append_nil]; exact hRS.next fun _ _ => StA.next h⟩
        have hVm := fun W h => hVm0 W (Below.next hcw h)
        clear hVm0
        have hB2 := few_more hB hl16 (E := []) hEf
        have H2 := like_more hl16 (E := []) hEx
        have cC2 : ∀ W, Below w.heap.size w W → (ScV W ⟨7, S.enums, S.structs.reverse ++ []⟩ (.agg #[.int .i64 7, .slice A n c, .slice AS m cS])) → Calls Tryz.prog 11 #[.agg #[.int .i64 7, .slice A n c, .slice AS m cS]] W (Ib (.int .i64 0) W) := fun W h hs => by
          have c := check_any _ hB2 (.agg #[.int .i64 7, .slice A n c, .slice AS m cS]) W hs (hE.next h)
          rw [(H2.vld hV hB hB2).chk_] at c
          exact c
        have t0 := Tc.c 0 rfl
        have t1 := Tc.c 1 rfl
        have t2 := Tc.c 2 rfl
        have t3 := Tc.lt
        go_wp2_with fail
        refine (cC1 _ hcw).mono ?_
        rintro e wa ⟨rfl, hba⟩
        replace Mc := Mc.next hba
        have m0 := Mc.c 0 rfl
        have m1 := Mc.c 1 rfl
        have m2 := Mc.c 2 rfl
        have m3 := Mc.lt
        have cC3 := cC2 wa (Below.next hcur hba) (hVm wa hba)
        clear t0 t1 t2 t3 cC1 cC2
        go_wp2_with fail
        refine cC3.mono ?_
        rintro e wb ⟨rfl, hbb⟩
        replace Mc := Mc.next hbb
        replace Rc := (Rc.next hba).next hbb
        replace Tc := (Tc.next hba).next hbb
        replace hcur := Below.next (Below.next hcur hba) hbb
        replace hcw := Below.next (Below.next hcw hba) hbb
        replace hVm : ∀ W, Below wb.heap.size wb W → ScV W ⟨7, S.enums, S.structs.reverse ++ []⟩ (.agg #[.int .i64 7, .slice A n c, .slice AS m cS]) := fun W h => hVm W (Below.next (Below.next hba hbb) h)
        replace HT1 : Hid (∀ W, Below wb.heap.size wb W → ScV W ⟨S.ver, S.enums.reverse, S.structs.reverse⟩ (.agg #[.int .i64 S.ver, .slice AE n cE, .slice AS m cS])) := Lib.hid fun W h => HT1.out W (Below.next hcw h)
        clear cC3 m0 m1 m2 m3 hba hbb
        go_wp2_with fail
        go_loopw [11] (fun i_ wr => ∃ k : Nat, k ≤ m ∧ i_ = .int .i64 (k : Int) ∧ Bx wr w.heap.size [.int .i64 S.ver, .slice A n c, .slice A2 m c2] ∧ Bx wr g3 [.int .i64 S.ver, .slice AE n cE, .slice AS m cS] ∧ Bx wr g6 [.int .i64 7, .slice A n c, .slice AS m cS] ∧ Below wb.heap.size wb wr) (fun i_ _ => m - (intOf i_).toNat)
        case atStart => exact ⟨0, by omega, rfl, Rc, Tc, Mc, Below.refl _ _⟩
        case round =>
          clear Rc Tc Mc
          obtain ⟨k, hk, rfl, R1, T1, M1, hb⟩ := hrel
          have s0 := R1.c 0 rfl
          have s1 := R1.c 1 rfl
          have s2 := R1.c 2 rfl
          have lw1 := R1.lt
          have hbw := Below.next hcur hb
          by_cases hlt : k < m
          · have hkm : k < S.structs.length := by rw [HM.out]; exact hlt
            obtain ⟨a2, rfl, hA⟩ := hSs.get hkm
            have x0 := cell_next hbw hA.1
            have hblk : (a2.add (k * 2)).block < wr.heap.size := blk_lt x0
            have hx := (hB.st _ (List.getElem_mem hkm)).1
            have hxs : (S.structs[k]'hkm).name ∈ sns S := List.mem_map.2 ⟨_, List.getElem_mem hkm, rfl⟩
            generalize (S.structs[k]'hkm).name = x at *
            replace hx : x.length ≤ 9223372036854775807 := Nat.le_trans hx (by decide)
            have cD0 := devDigest_any S hB x hx _ wr (hv0.next hbw) (hE.next hbw) (hT.below hbw)
            obtain ⟨d0, hd0⟩ : ∃ d, dig S x = d := ⟨_, rfl⟩
            obtain ⟨p0, hp0⟩ : ∃ d, depA S x = d := ⟨_, rfl⟩
            rw [hd0] at cD0
            have HD0 := Lib.hid hd0
            have HP0 := Lib.hid hp0
            clear hA hd0 hp0
            go_wp2_with fail
            refine cD0.mono ?_
            rintro e wd ⟨rfl, hbd⟩
            replace R1 := R1.next hbd
            replace T1 := T1.next hbd
            replace M1 := M1.next hbd
            have hbw2 := Below.next hbw hbd
            have hbx := Below.next hb hbd
            clear cD0 s0 s1 s2 lw1 x0 hblk
            have cD1 := fun W (h : Below wd.heap.size wd W) => devDigest_any _ hB1 x hx _ W (HT1.out W (Below.next hbx h)) (hE.next (Below.next hbw2 h)) (hT.below (Below.next hbw2 h))
            have cD2 := fun W (h : Below wd.heap.size wd W) => devDigest_any _ hB2 x hx _ W (hVm W (Below.next hbx h)) (hE.next (Below.next hbw2 h)) (hT.below (Below.next hbw2 h))
            have cP1 := fun W (h : Below wd.heap.size wd W) => devDepth_any _ hB1 x hx _ W (HT1.out W (Below.next hbx h)) (hE.next (Below.next hbw2 h))
            have cP0 := fun W (h : Below wd.heap.size wd W) => devDepth_any S hB x hx _ W (hv0.next (Below.next hbw2 h)) (hE.next (Below.next hbw2 h))
            have cU1 : ∀ W, Below wd.heap.size wd W → Calls Tryz.prog 25 #[.agg #[.int .i64 S.ver, .slice AE n cE, .slice AS m cS], .string (bs x)] W (UaP S x W) := fun W h => (devUses_any _ hB1 x hx _ W (HT1.out W (Below.next hbx h)) (hE.next (Below.next hbw2 h))).mono fun e w' ⟨v, l, e1, e2, e3, e4⟩ => ⟨v, l, e1, H1.usA_ hV hB hB1 hxs e2, e3, e4⟩
            have cU0 := fun W (h : Below wd.heap.size wd W) => devUses_any S hB x hx _ W (hv0.next (Below.next hbw2 h)) (hE.next (Below.next hbw2 h))
            rw [H1.dig_ hV hB hB1 hxs, HD0.out] at cD1
            rw [H2.dig_ hV hB hB2 hxs, HD0.out] at cD2
            rw [H1.depA_ hV hB hB1 hxs, HP0.out] at cP1
            rw [HP0.out] at cP0
            have s0 := R1.c 0 rfl
            have s1 := R1.c 1 rfl
            have s2 := R1.c 2 rfl
            have lw1 := R1.lt
            have t0 := T1.c 0 rfl
            have t1 := T1.c 1 rfl
            have t2 := T1.c 2 rfl
            have lw2 := T1.lt
            have m0 := M1.c 0 rfl
            have m1 := M1.c 1 rfl
            have m2 := M1.c 2 rfl
            have lw3 := M1.lt
            clear hx hxs
            go_upto_region 25 with (fail)
            refine wp_region_on (by kernel_rfl) (FF [(1, Fact.at_ wd (.pointer (some ⟨w.heap.size, 0, none⟩))), (3, Fact.at_ wd (.pointer (some ⟨g3, 0, none⟩))), (6, Fact.at_ wd (.pointer (some ⟨g6, 0, none⟩))), (12, Fact.at_ wd (.string (bs x))), (13, Fact.at_ wd (.int .u64 (d0 : Int))), (121, Fact.at_ wd (.agg #[.int .i64 S.ver, .slice AE n cE, .slice AS m cS])), (122, Fact.at_ wd (.string (bs x))), (123, Fact.at_ wd (.int .u64 (d0 : Int))), (124, Fact.at_ wd (.int .u64 (d0 : Int))), (125, Fact.at_ wd (.bool false)), (126, Fact.at_ wd (.bool false)), (127, Fact.at_ wd (.agg #[.int .i64 7, .slice A n c, .slice AS m cS])), (128, Fact.at_ wd (.string (bs x))), (129, Fact.at_ wd (.int .u64 (d0 : Int))), (130, Fact.at_ wd (.int .u64 (d0 : Int))), (131, Fact.at_ wd (.bool false)), (132, Fact.at_ wd (.bool false)), (133, Fact.at_ wd (.bool false)), (134, Fact.at_ wd (.agg #[.int .i64 S.ver, .slice AE n cE, .slice AS m cS])), (135, Fact.at_ wd (.string (bs x))), (136, Fact.at_ wd (.int .i64 (p0 : Int))), (137, Fact.at_ wd (.agg #[.int .i64 S.ver, .slice A n c, .slice (some a2) m c2])), (138, Fact.at_ wd (.string (bs x))), (139, Fact.at_ wd (.int .i64 (p0 : Int))), (140, Fact.at_ wd (.bool false)), (141, Fact.at_ wd (.bool false)), (142, Fact.at_ wd (.bool false)), (143, Fact.at_ wd (.agg #[.int .i64 S.ver, .slice AE n cE, .slice AS m cS])), (144, Fact.at_ wd (.string (bs x))), (145, FUa S x wd), (146, Fact.at_ wd (.agg #[.int .i64 S.ver, .slice A n c, .slice (some a2) m c2])), (147, Fact.at_ wd (.string (bs x))), (148, FUa S x wd), (149, Fact.at_ wd (.bool true)), (150, Fact.at_ wd (.bool false)), (151, Fact.at_ wd (.bool false))]) [1, 3, 6, 12, 13] 153 [121, 122, 123, 124, 125, 126, 127, 128, 129, 130, 131, 132, 133, 134, 135, 136, 137, 138, 139, 140, 141, 142, 143, 144, 145, 146, 147, 148, 149, 150, 151] rfl (by kernel_rfl) (by kernel_rfl) ?_ ?_ ?_
            · intro t9 ht9
              simp only [List.mem_cons, List.not_mem_nil, or_false] at ht9
              rcases ht9 with rfl | rfl | rfl | rfl | rfl
              · exact ⟨rfl, Below.refl _ _⟩
              · exact ⟨rfl, Below.refl _ _⟩
              · exact ⟨rfl, Below.refl _ _⟩
              · exact ⟨rfl, Below.refl _ _⟩
              · exact ⟨rfl, Below.refl _ _⟩
            · refine fcs ⟨at1 3 121 (.pointer (some ⟨g3, 0, none⟩)) (.agg #[.int .i64 S.ver, .slice AE n cE, .slice AS m cS]) rfl (by first | exact .inl rfl | exact .inr ⟨_, _, _, rfl, rfl, by kernel_rfl, by decide, rfl⟩) (by kernel_rfl) rfl rfl (fun a9 W9 hb9 h9 => by have g0 := cell_next hb9 t0; have g1 := cell_next hb9 t1; have g2 := cell_next hb9 t2; simp [execOp, h9] <;> go_simp), ?_⟩
              refine fcs ⟨atcopy 12 122 (.string (bs x)) (.inl rfl) rfl (by first | exact .inl rfl | exact .inr ⟨_, _, _, rfl, rfl, by kernel_rfl, by decide, rfl⟩) (by kernel_rfl) rfl rfl, ?_⟩
              refine fcs ⟨atc2 28 121 122 123 (.agg #[.int .i64 S.ver, .slice AE n cE, .slice AS m cS]) (.string (bs x)) (.int .u64 (d0 : Int)) _ rfl rfl (by first | exact .inl rfl | exact .inr ⟨_, _, _, rfl, rfl, by kernel_rfl, by decide, rfl⟩) (by kernel_rfl) (by kernel_rfl) rfl rfl (by kernel_rfl) rfl (fun W9 hb9 => cD1 W9 hb9), ?_⟩
              refine fcs ⟨atcopy 13 124 (.int .u64 (d0 : Int)) (.inl rfl) rfl (by first | exact .inl rfl | exact .inr ⟨_, _, _, rfl, rfl, by kernel_rfl, by decide, rfl⟩) (by kernel_rfl) rfl rfl, ?_⟩
              refine fcs ⟨at2 123 124 125 (.int .u64 (d0 : Int)) (.int .u64 (d0 : Int)) (.bool false) rfl (by first | exact .inl rfl | exact .inr ⟨_, _, _, rfl, rfl, by kernel_rfl, by decide, rfl⟩) (by kernel_rfl) (by kernel_rfl) rfl rfl rfl (fun a9 W9 hb9 h9 h8 => by simp [execOp, h9, h8] <;> go_simp), ?_⟩
              refine fcs ⟨atcopy 125 126 (.bool false) (.inl rfl) rfl (by first | exact .inl rfl | exact .inr ⟨_, _, _, rfl, rfl, by kernel_rfl, by decide, rfl⟩) (by kernel_rfl) rfl rfl, ?_⟩
              refine fcs ⟨at1 6 127 (.pointer (some ⟨g6, 0, none⟩)) (.agg #[.int .i64 7, .slice A n c, .slice AS m cS]) rfl (by first | exact .inl rfl | exact .inr ⟨_, _, _, rfl, rfl, by kernel_rfl, by decide, rfl⟩) (by kernel_rfl) rfl rfl (fun a9 W9 hb9 h9 => by have g0 := cell_next hb9 m0; have g1 := cell_next hb9 m1; have g2 := cell_next hb9 m2; simp [execOp, h9] <;> go_simp), ?_⟩
              refine fcs ⟨atcopy 12 128 (.string (bs x)) (.inl rfl) rfl (by first | exact .inl rfl | exact .inr ⟨_, _, _, rfl, rfl, by kernel_rfl, by decide, rfl⟩) (by kernel_rfl) rfl rfl, ?_⟩
              refine fcs ⟨atc2 28 127 128 129 (.agg #[.int .i64 7, .slice A n c, .slice AS m cS]) (.string (bs x)) (.int .u64 (d0 : Int)) _ rfl rfl (by first | exact .inl rfl | exact .inr ⟨_, _, _, rfl, rfl, by kernel_rfl, by decide, rfl⟩) (by kernel_rfl) (by kernel_rfl) rfl rfl (by kernel_rfl) rfl (fun W9 hb9 => cD2 W9 hb9), ?_⟩
              refine fcs ⟨atcopy 13 130 (.int .u64 (d0 : Int)) (.inl rfl) rfl (by first | exact .inl rfl | exact .inr ⟨_, _, _, rfl, rfl, by kernel_rfl, by decide, rfl⟩) (by kernel_rfl) rfl rfl, ?_⟩
              refine fcs ⟨at2 129 130 131 (.int .u64 (d0 : Int)) (.int .u64 (d0 : Int)) (.bool false) rfl (by first | exact .inl rfl | exact .inr ⟨_, _, _, rfl, rfl, by kernel_rfl, by decide, rfl⟩) (by kernel_rfl) (by kernel_rfl) rfl rfl rfl (fun a9 W9 hb9 h9 h8 => by simp [execOp, h9, h8] <;> go_simp), ?_⟩
              refine fcs ⟨atpick 126 131 132 false (.bool false) _ _ rfl rfl rfl (by first | exact .inl rfl | exact .inr ⟨_, _, _, rfl, rfl, by kernel_rfl, by decide, rfl⟩) (by kernel_rfl) (by kernel_rfl) rfl rfl rfl, ?_⟩
              refine fcs ⟨atcopy 132 133 (.bool false) (.inl rfl) rfl (by first | exact .inl rfl | exact .inr ⟨_, _, _, rfl, rfl, by kernel_rfl, by decide, rfl⟩) (by kernel_rfl) rfl rfl, ?_⟩
              refine fcs ⟨at1 3 134 (.pointer (some ⟨g3, 0, none⟩)) (.agg #[.int .i64 S.ver, .slice AE n cE, .slice AS m cS]) rfl (by first | exact .inl rfl | exact .inr ⟨_, _, _, rfl, rfl, by kernel_rfl, by decide, rfl⟩) (by kernel_rfl) rfl rfl (fun a9 W9 hb9 h9 => by have g0 := cell_next hb9 t0; have g1 := cell_next hb9 t1; have g2 := cell_next hb9 t2; simp [execOp, h9] <;> go_simp), ?_⟩
              refine fcs ⟨atcopy 12 135 (.string (bs x)) (.inl rfl) rfl (by first | exact .inl rfl | exact .inr ⟨_, _, _, rfl, rfl, by kernel_rfl, by decide, rfl⟩) (by kernel_rfl) rfl rfl, ?_⟩
              refine fcs ⟨atc2 22 134 135 136 (.agg #[.int .i64 S.ver, .slice AE n cE, .slice AS m cS]) (.string (bs x)) (.int .i64 (p0 : Int)) _ rfl rfl (by first | exact .inl rfl | exact .inr ⟨_, _, _, rfl, rfl, by kernel_rfl, by decide, rfl⟩) (by kernel_rfl) (by kernel_rfl) rfl rfl (by kernel_rfl) rfl (fun W9 hb9 => cP1 W9 hb9), ?_⟩
              refine fcs ⟨at1 1 137 (.pointer (some ⟨w.heap.size, 0, none⟩)) (.agg #[.int .i64 S.ver, .slice A n c, .slice (some a2) m c2]) rfl (by first | exact .inl rfl | exact .inr ⟨_, _, _, rfl, rfl, by kernel_rfl, by decide, rfl⟩) (by kernel_rfl) rfl rfl (fun a9 W9 hb9 h9 => by have g0 := cell_next hb9 s0; have g1 := cell_next hb9 s1; have g2 := cell_next hb9 s2; simp [execOp, h9] <;> go_simp), ?_⟩
              refine fcs ⟨atcopy 12 138 (.string (bs x)) (.inl rfl) rfl (by first | exact .inl rfl | exact .inr ⟨_, _, _, rfl, rfl, by kernel_rfl, by decide, rfl⟩) (by kernel_rfl) rfl rfl, ?_⟩
              refine fcs ⟨atc2 22 137 138 139 (.agg #[.int .i64 S.ver, .slice A n c, .slice (some a2) m c2]) (.string (bs x)) (.int .i64 (p0 : Int)) _ rfl rfl (by first | exact .inl rfl | exact .inr ⟨_, _, _, rfl, rfl, by kernel_rfl, by decide, rfl⟩) (by kernel_rfl) (by kernel_rfl) rfl rfl (by kernel_rfl) rfl (fun W9 hb9 => cP0 W9 hb9), ?_⟩
              refine fcs ⟨at2 136 139 140 (.int .i64 (p0 : Int)) (.int .i64 (p0 : Int)) (.bool false) rfl (by first | exact .inl rfl | exact .inr ⟨_, _, _, rfl, rfl, by kernel_rfl, by decide, rfl⟩) (by kernel_rfl) (by kernel_rfl) rfl rfl rfl (fun a9 W9 hb9 h9 h8 => by simp [execOp, h9, h8] <;> go_simp), ?_⟩
              refine fcs ⟨atpick 133 140 141 false (.bool false) _ _ rfl rfl rfl (by first | exact .inl rfl | exact .inr ⟨_, _, _, rfl, rfl, by kernel_rfl, by decide, rfl⟩) (by kernel_rfl) (by kernel_rfl) rfl rfl rfl, ?_⟩
              refine fcs ⟨atcopy 141 142 (.bool false) (.inl rfl) rfl (by first | exact .inl rfl | exact .inr ⟨_, _, _, rfl, rfl, by kernel_rfl, by decide, rfl⟩) (by kernel_rfl) rfl rfl, ?_⟩
              refine fcs ⟨at1 3 143 (.pointer (some ⟨g3, 0, none⟩)) (.agg #[.int .i64 S.ver, .slice AE n cE, .slice AS m cS]) rfl (by first | exact .inl rfl | exact .inr ⟨_, _, _, rfl, rfl, by kernel_rfl, by decide, rfl⟩) (by kernel_rfl) rfl rfl (fun a9 W9 hb9 h9 => by have g0 := cell_next hb9 t0; have g1 := cell_next hb9 t1; have g2 := cell_next hb9 t2; simp [execOp, h9] <;> go_simp), ?_⟩
              refine fcs ⟨atcopy 12 144 (.string (bs x)) (.inl rfl) rfl (by first | exact .inl rfl | exact .inr ⟨_, _, _, rfl, rfl, by kernel_rfl, by decide, rfl⟩) (by kernel_rfl) rfl rfl, ?_⟩
              refine fcs ⟨at_enter (W0 := wd) (by first | exact .inl rfl | exact .inr ⟨_, _, _, rfl, rfl, by kernel_rfl, by decide, rfl⟩) (fun a9 W9 hf9 => by have p143 := hf9 143 (by kernel_rfl); have q143 : a9.tmps.getD 143 undef = (.agg #[.int .i64 S.ver, .slice AE n cE, .slice AS m cS]) := p143.1; have p144 := hf9 144 (by kernel_rfl); have q144 : a9.tmps.getD 144 undef = (.string (bs x)) := p144.1; have hb9 := p143.2; exact ⟨25, #[(.agg #[.int .i64 S.ver, .slice AE n cE, .slice AS m cS]), (.string (bs x))], by rw [← q143, ← q144]; simpa [execOp, resolve, Act.eval] using run_invoke (by kernel_rfl) _ W9, (cU1 W9 p143.2).mono fun e w' ⟨v, l, e1, e2, e3, e4⟩ => ⟨v, e1, e4, fun s hs => by injection hs with hs; subst hs; exact ⟨l, e2, e3, upG hb9 e4⟩⟩⟩), ?_⟩
              refine fcs ⟨at1 1 146 (.pointer (some ⟨w.heap.size, 0, none⟩)) (.agg #[.int .i64 S.ver, .slice A n c, .slice (some a2) m c2]) rfl (by first | exact .inl rfl | exact .inr ⟨_, _, _, rfl, rfl, by kernel_rfl, by decide, rfl⟩) (by kernel_rfl) rfl rfl (fun a9 W9 hb9 h9 => by have g0 := cell_next hb9 s0; have g1 := cell_next hb9 s1; have g2 := cell_next hb9 s2; simp [execOp, h9] <;> go_simp), ?_⟩
              refine fcs ⟨atcopy 12 147 (.string (bs x)) (.inl rfl) rfl (by first | exact .inl rfl | exact .inr ⟨_, _, _, rfl, rfl, by kernel_rfl, by decide, rfl⟩) (by kernel_rfl) rfl rfl, ?_⟩
              refine fcs ⟨at_enter (W0 := wd) (by first | exact .inl rfl | exact .inr ⟨_, _, _, rfl, rfl, by kernel_rfl, by decide, rfl⟩) (fun a9 W9 hf9 => by have p146 := hf9 146 (by kernel_rfl); have q146 : a9.tmps.getD 146 undef = (.agg #[.int .i64 S.ver, .slice A n c, .slice (some a2) m c2]) := p146.1; have p147 := hf9 147 (by kernel_rfl); have q147 : a9.tmps.getD 147 undef = (.string (bs x)) := p147.1; have hb9 := p146.2; exact ⟨25, #[(.agg #[.int .i64 S.ver, .slice A n c, .slice (some a2) m c2]), (.string (bs x))], by rw [← q146, ← q147]; simpa [execOp, resolve, Act.eval] using run_invoke (by kernel_rfl) _ W9, (cU0 W9 p146.2).mono fun e w' ⟨v, l, e1, e2, e3, e4⟩ => ⟨v, e1, e4, fun s hs => by injection hs with hs; subst hs; exact ⟨l, e2, e3, upG hb9 e4⟩⟩⟩), ?_⟩
              refine fcs ⟨at_enter (W0 := wd) (by first | exact .inl rfl | exact .inr ⟨_, _, _, rfl, rfl, by kernel_rfl, by decide, rfl⟩) (fun a9 W9 hf9 => by obtain ⟨l, u1, u2, u3⟩ := hf9 145 (by kernel_rfl); obtain ⟨l', k1, k2, k3⟩ := hf9 148 (by kernel_rfl); obtain rfl := u1.one k1; have cN := lawNames_any l l _ _ W9 (u1.short hB) (u1.short hB) u2 k2; rw [decide_eq_true rfl] at cN; exact ⟨24, #[a9.tmps.getD 145 undef, a9.tmps.getD 148 undef], by simpa [execOp, resolve, Act.eval] using run_invoke (by kernel_rfl) _ W9, cN.mono fun e w' ⟨e1, e2⟩ => ⟨.bool true, e1, e2, fun s hs => by injection hs with hs; subst hs; exact ⟨rfl, upG u3 e2⟩⟩⟩), ?_⟩
              refine fcs ⟨at1 149 150 (.bool true) (.bool false) rfl (by first | exact .inl rfl | exact .inr ⟨_, _, _, rfl, rfl, by kernel_rfl, by decide, rfl⟩) (by kernel_rfl) rfl rfl (fun a9 W9 hb9 h9 => by simp [execOp, h9] <;> go_simp), ?_⟩
              refine fcs ⟨atpick 142 150 151 false (.bool false) _ _ rfl rfl rfl (by first | exact .inl rfl | exact .inr ⟨_, _, _, rfl, rfl, by kernel_rfl, by decide, rfl⟩) (by kernel_rfl) (by kernel_rfl) rfl rfl rfl, ?_⟩
              exact fnl
            intro vv wv hvv hbv
            have hv151 : vv 151 = (.bool false) := (hvv 151 (by decide)).1
            simp only [lay, List.foldl_cons, List.foldl_nil, List.setIfInBounds_toArray, List.set_cons_succ, List.set_cons_zero, hv151]
            have hb7 := Below.next hbx hbv
            have Q1 := R1.next hbv
            have Q2 := T1.next hbv
            have Q3 := M1.next hbv
            clear hvv cD1 cD2 cP1 cP0 cU1 cU0 s0 s1 s2 lw1 t0 t1 t2 lw2 m0 m1 m2 lw3 R1 T1 M1
            go_wp2_with fail
            go_roundw
            case rel => exact ⟨k + 1, by omega, by go_num, Q1, Q2, Q3, hb7⟩
            case measure => simp [intOf]; omega
          · obtain rfl : k = m := by omega
            go_wp2_with fail
            refine (awake_any _ (hE.next hbw)).mono ?_
            rintro e wz ⟨rfl, hbz⟩
            go_wp2_with fail
            go_ret
            exact ⟨rfl, Below.next hbw hbz⟩
      have hll2 : l2.length ≤ 100000 := by
        have h := congrArg List.length HM1
        rw [List.length_map, List.length_reverse, HM.out] at h
        omega
      have hgrS : ∀ b, Value.ownBlock (.slice AS m cS) = some b → w.heap.size ≤ b := fun b e => by have h1 := (hSt.1.lt b e).1; have h2 := hgo.1; omega
      have hqS : ∀ b, Value.ownBlock (.slice AS m cS) = some b → wo.heap.size ≤ b := fun b e => (hSt.1.lt b e).1
      have hneM : some g6 ≠ Value.ownBlock (.slice AS m cS) := fun e => by have h1 := (hSt.1.lt g6 e.symm).2; omega
      have hne0 : some w.heap.size ≠ Value.ownBlock (.slice AS m cS) := fun e => by have h1 := (hSt.1.lt _ e.symm).1; have h2 := hgo; omega
      have hne3 : some g3 ≠ Value.ownBlock (.slice AS m cS) := fun e => by have h1 := (hSt.1.lt g3 e.symm).1; have h2 := hgo; omega
      have hwg : wo.heap.size ≤ g6 := by rw [← hg6]; exact HWO.out
      have HWG := Lib.hid hwg
      have kz := ab1 (w8.alloc (Obj.cells #[.string (bs ez.name), .slice A9 ez.names.length c9, .slice A91 ez.nums.length c91] 38)) (Obj.cells #[.string ⟨#[90, 122, 122]⟩, .slice none 0 0] 32)
      have kk := Below.next k8 kz
      have S9 := (hSt.other hk68).other kk
      have E9 := (hEn.other hk68).other kk
      have M9 := M8.next kk
      have R9 := R8.next kk
      have T9 := T8.next kk
      have hb12 := Below.next hb10 kk
      have hBs : wo.heap.size ≤ ((w8.alloc (Obj.cells #[.string (bs ez.name), .slice A9 ez.names.length c9, .slice A91 ez.nums.length c91] 38)).alloc (Obj.cells #[.string ⟨#[90, 122, 122]⟩, .slice none 0 0] 32)).heap.size := Nat.le_trans HWO.out (Nat.le_trans hk68.size kk.size)
      have hg6s : g6 < ((w8.alloc (Obj.cells #[.string (bs ez.name), .slice A9 ez.names.length c9, .slice A91 ez.nums.length c91] 38)).alloc (Obj.cells #[.string ⟨#[90, 122, 122]⟩, .slice none 0 0] 32)).heap.size := M9.lt
      have hmapM : (l2 ++ [((zst, none, 0) : St × Option Addr × Nat)]).map Prod.fst = S.structs.reverse ++ [zst] := by rw [List.map_append, HM1]; rfl
      have HBS := Lib.hid hBs
      have HGS := Lib.hid hg6s
      have M8b := M8.next k8
      have m2 := M8b.c 2 rfl
      have m3 := M8b.lt
      clear hwg hBs hg6s
      go_upto_region 18 with (at_builtin; refine wpList_keepSt rfl (.tmp 92) (.tmp 94) rfl wo.heap.size w (.slice AS m cS) l2 zst none 0 _ 1 rfl rfl S9 (.inl rfl) (by show World.cell? _ _ = some (Value.string ⟨#[90, 122, 122]⟩); simp [Addr.add]) (by show World.cell? _ _ = some (Value.slice none 0 0); simp [Addr.add]) hll2 HBS.out ?_; intro v' w10 ho' hold hg' h4'; obtain ⟨AM, nM, cM, rfl⟩ := own_slice ho'.1; have M10 := M9.rob hneM w10 hg'; have q0 := M10.c 2 rfl; have q1 := M10.f 2 rfl; have q2 := M10.lt)
      have hb10x := hb12.grown hg' hb12.size hgrS
      have gs := gb_set1 w10 ⟨g6, 2, none⟩ (.slice AM nM cM)
      have hcur : Below w.heap.size w (w10.setCell ⟨g6, 2, none⟩ (.slice AM nM cM)) := hb10x.setCell (by show w.heap.size ≤ g6; omega) _
      have Rc := (R9.rob hne0 w10 hg').kept gs (by show w.heap.size ≠ g6; omega)
      have Tc := (T9.rob hne3 w10 hg').kept gs (by show g3 ≠ g6; omega)
      have Mc : Bx _ g6 [.int .i64 7, .slice A n c, .slice AM nM cM] := M10.put 2 (.slice AM nM cM)
      have Ec := (E9.kept hg' (E9.ne hltE hqS)).kept gs (.inr fun e => by have h1 := hltE g6 e; have h2 := HWG.out; omega)
      have Sc := hold.kept gs (.inr fun e => hneM e.symm)
      have Mo := ho'.kept gs (.inr fun e => by
        rcases h4' with h | h
        · exact hneM (e.symm.trans h)
        · have h2 := HGS.out
          rw [e] at h
          injection h with h
          exact absurd h (Nat.ne_of_lt h2))
      generalize w10.setCell ⟨g6, 2, none⟩ (.slice AM nM cM) = w11 at *
      obtain ⟨AE', cE', hvE, hRE'⟩ := Ec.sl hcur
      obtain ⟨AS', cS', hvS, hRS'⟩ := Sc.sl hcur
      obtain ⟨AM', cM', hvM, hRM'⟩ := Mo.sl hcur
      rw [HL1.out] at hRE'
      rw [HM1] at hRS'
      rw [hmapM] at hRM' hvM
      rw [List.length_append, List.length_reverse, HM.out] at hvM
      obtain ⟨rfl, rfl⟩ : AE = AE' ∧ cE = cE' := by injection hvE with h1 h2 h3; exact ⟨h1, h3⟩
      obtain ⟨rfl, rfl⟩ : AS = AS' ∧ cS = cS' := by injection hvS with h1 h2 h3; exact ⟨h1, h3⟩
      obtain ⟨rfl, rfl, rfl⟩ : AM = AM' ∧ nM = m + 1 ∧ cM = cM' := by injection hvM with h1 h2 h3; exact ⟨h1, h2, h3⟩
      have HT2 : Hid (∀ W, Below w11.heap.size w11 W → ScV W ⟨S.ver, S.enums.reverse, S.structs.reverse⟩ (.agg #[.int .i64 S.ver, .slice AE n cE, .slice AS m cS])) := Lib.hid fun W h => ⟨AE, cE, AS, cS, by show _ = Value.agg #[_, .slice AE S.enums.reverse.length cE, .slice AS S.structs.reverse.length cS]; rw [List.length_reverse, List.length_reverse, HN.out, HM.out], hRE'.next fun _ _ => EnA.next h, hRS'.next fun _ _ => StA.next h⟩
      clear HT1 cC1 hvE hvS hvM
      have HT1 := HT2
      clear HT2
      have cC1 : ∀ W, Below w11.heap.size w11 W → Calls Tryz.prog 11 #[.agg #[.int .i64 S.ver, .slice AE n cE, .slice AS m cS]] W (Ib (.int .i64 0) W) := fun W h => by
        have c := check_any _ hB1 (.agg #[.int .i64 S.ver, .slice AE n cE, .slice AS m cS]) W (HT1.out W h) (hE.next (Below.next hcur h))
        rw [(H1.vld hV hB hB1).chk_] at c
        exact c
      have hVm : ∀ W, Below w11.heap.size w11 W → ScV W ⟨7, S.enums, S.structs.reverse ++ [zst]⟩ (.agg #[.int .i64 7, .slice A n c, .slice AM (m + 1) cM]) := fun W h => ⟨A, c, AM, cM, by show _ = Value.agg #[_, .slice A S.enums.length c, .slice AM (S.structs.reverse ++ [zst]).length cM]; rw [List.length_append, List.length_reverse, HN.out, HM.out]; rfl, hSe.next fun _ _ => EnA.next (Below.next hcur h), hRM'.next fun _ _ => StA.next h⟩
      have hcw := Below.refl w11.heap.size w11
      have hEf : ([zst] : List St) = [] ∨ ([zst] : List St) = [zst] := .inr rfl
      have hEx : ([zst] : List St) = [] ∨ ([zst] : List St) = [zst] ∧ zst.name ∉ sns S ∧ zst.name ∉ ens S ∧ S.enums.length + S.structs.length < 16 := .inr ⟨rfl, fun h => Bool.noConfusion (HBZ.out.symm.trans (List.contains_iff_mem.2 h)), fun h => Bool.noConfusion (HBE.out.symm.trans (List.contains_iff_mem.2 h)), by rw [HN.out, HM.out]; exact h16⟩
      have hB2 := few_more hB hl16 (E := [zst]) hEf
      have H2 := like_more hl16 (E := [zst]) hEx
      have cC2 : ∀ W, Below w.heap.size w W → (ScV W ⟨7, S.enums, S.structs.reverse ++ [zst]⟩ (.agg #[.int .i64 7, .slice A n c, .slice AM (m + 1) cM])) → Calls Tryz.prog 11 #[.agg #[.int .i64 7, .slice A n c, .slice AM (m + 1) cM]] W (Ib (.int .i64 0) W) := fun W h hs => by
        have c := check_any _ hB2 (.agg #[.int .i64 7, .slice A n c, .slice AM (m + 1) cM]) W hs (hE.next h)
        rw [(H2.vld hV hB hB2).chk_] at c
        exact c
      have t0 := Tc.c 0 rfl
      have t1 := Tc.c 1 rfl
      have t2 := Tc.c 2 rfl
      have t3 := Tc.lt
      go_wp2_with fail
      refine (cC1 _ hcw).mono ?_
      rintro e wa ⟨rfl, hba⟩
      replace Mc := Mc.next hba
      have m0 := Mc.c 0 rfl
      have m1 := Mc.c 1 rfl
      have m2 := Mc.c 2 rfl
      have m3 := Mc.lt
      have cC3 := cC2 wa (Below.next hcur hba) (hVm wa hba)
      clear t0 t1 t2 t3 cC1 cC2
      go_wp2_with fail
      refine cC3.mono ?_
      rintro e wb ⟨rfl, hbb⟩
      replace Mc := Mc.next hbb
      replace Rc := (Rc.next hba).next hbb
      replace Tc := (Tc.next hba).next hbb
      replace hcur := Below.next (Below.next hcur hba) hbb
      replace hcw := Below.next (Below.next hcw hba) hbb
      replace hVm : ∀ W, Below wb.heap.size wb W → ScV W ⟨7, S.enums, S.structs.reverse ++ [zst]⟩ (.agg #[.int .i64 7, .slice A n c, .slice AM (m + 1) cM]) := fun W h => hVm W (Below.next (Below.next hba hbb) h)
      replace HT1 : Hid (∀ W, Below wb.heap.size wb W → ScV W ⟨S.ver, S.enums.reverse, S.structs.reverse⟩ (.agg #[.int .i64 S.ver, .slice AE n cE, .slice AS m cS])) := Lib.hid fun W h => HT1.out W (Below.next hcw h)
      clear cC3 m0 m1 m2 m3 hba hbb
      go_wp2_with fail
      go_loopw [11] (fun i_ wr => ∃ k : Nat, k ≤ m ∧ i_ = .int .i64 (k : Int) ∧ Bx wr w.heap.size [.int .i64 S.ver, .slice A n c, .slice A2 m c2] ∧ Bx wr g3 [.int .i64 S.ver, .slice AE n cE, .slice AS m cS] ∧ Bx wr g6 [.int .i64 7, .slice A n c, .slice AM (m + 1) cM] ∧ Below wb.heap.size wb wr) (fun i_ _ => m - (intOf i_).toNat)
      case atStart => exact ⟨0, by omega, rfl, Rc, Tc, Mc, Below.refl _ _⟩
      case round =>
        clear Rc Tc Mc
        obtain ⟨k, hk, rfl, R1, T1, M1, hb⟩ := hrel
        have s0 := R1.c 0 rfl
        have s1 := R1.c 1 rfl
        have s2 := R1.c 2 rfl
        have lw1 := R1.lt
        have hbw := Below.next hcur hb
        by_cases hlt : k < m
        · have hkm : k < S.structs.length := by rw [HM.out]; exact hlt
          obtain ⟨a2, rfl, hA⟩ := hSs.get hkm
          have x0 := cell_next hbw hA.1
          have hblk : (a2.add (k * 2)).block < wr.heap.size := blk_lt x0
          have hx := (hB.st _ (List.getElem_mem hkm)).1
          have hxs : (S.structs[k]'hkm).name ∈ sns S := List.mem_map.2 ⟨_, List.getElem_mem hkm, rfl⟩
          generalize (S.structs[k]'hkm).name = x at *
          replace hx : x.length ≤ 9223372036854775807 := Nat.le_trans hx (by decide)
          have cD0 := devDigest_any S hB x hx _ wr (hv0.next hbw) (hE.next hbw) (hT.below hbw)
          obtain ⟨d0, hd0⟩ : ∃ d, dig S x = d := ⟨_, rfl⟩
          obtain ⟨p0, hp0⟩ : ∃ d, depA S x = d := ⟨_, rfl⟩
          rw [hd0] at cD0
          have HD0 := Lib.hid hd0
          have HP0 := Lib.hid hp0
          clear hA hd0 hp0
          go_wp2_with fail
          refine cD0.mono ?_
          rintro e wd ⟨rfl, hbd⟩
          replace R1 := R1.next hbd
          replace T1 := T1.next hbd
          replace M1 := M1.next hbd
          have hbw2 := Below.next hbw hbd
          have hbx := Below.next hb hbd
          clear cD0 s0 s1 s2 lw1 x0 hblk
          have cD1 := fun W (h : Below wd.heap.size wd W) => devDigest_any _ hB1 x hx _ W (HT1.out W (Below.next hbx h)) (hE.next (Below.next hbw2 h)) (hT.below (Below.next hbw2 h))
          have cD2 := fun W (h : Below wd.heap.size wd W) => devDigest_any _ hB2 x hx _ W (hVm W (Below.next hbx h)) (hE.next (Below.next hbw2 h)) (hT.below (Below.next hbw2 h))
          have cP1 := fun W (h : Below wd.heap.size wd W) => devDepth_any _ hB1 x hx _ W (HT1.out W (Below.next hbx h)) (hE.next (Below.next hbw2 h))
          have cP0 := fun W (h : Below wd.heap.size wd W) => devDepth_any S hB x hx _ W (hv0.next (Below.next hbw2 h)) (hE.next (Below.next hbw2 h))
          have cU1 : ∀ W, Below wd.heap.size wd W → Calls Tryz.prog 25 #[.agg #[.int .i64 S.ver, .slice AE n cE, .slice AS m cS], .string (bs x)] W (UaP S x W) := fun W h => (devUses_any _ hB1 x hx _ W (HT1.out W (Below.next hbx h)) (hE.next (Below.next hbw2 h))).mono fun e w' ⟨v, l, e1, e2, e3, e4⟩ => ⟨v, l, e1, H1.usA_ hV hB hB1 hxs e2, e3, e4⟩
          have cU0 := fun W (h : Below wd.heap.size wd W) => devUses_any S hB x hx _ W (hv0.next (Below.next hbw2 h)) (hE.next (Below.next hbw2 h))
          rw [H1.dig_ hV hB hB1 hxs, HD0.out] at cD1
          rw [H2.dig_ hV hB hB2 hxs, HD0.out] at cD2
          rw [H1.depA_ hV hB hB1 hxs, HP0.out] at cP1
          rw [HP0.out] at cP0
          have s0 := R1.c 0 rfl
          have s1 := R1.c 1 rfl
          have s2 := R1.c 2 rfl
          have lw1 := R1.lt
          have t0 := T1.c 0 rfl
          have t1 := T1.c 1 rfl
          have t2 := T1.c 2 rfl
          have lw2 := T1.lt
          have m0 := M1.c 0 rfl
          have m1 := M1.c 1 rfl
          have m2 := M1.c 2 rfl
          have lw3 := M1.lt
          clear hx hxs
          go_upto_region 25 with (fail)
          refine wp_region_on (by kernel_rfl) (FF [(1, Fact.at_ wd (.pointer (some ⟨w.heap.size, 0, none⟩))), (3, Fact.at_ wd (.pointer (some ⟨g3, 0, none⟩))), (6, Fact.at_ wd (.pointer (some ⟨g6, 0, none⟩))), (12, Fact.at_ wd (.string (bs x))), (13, Fact.at_ wd (.int .u64 (d0 : Int))), (121, Fact.at_ wd (.agg #[.int .i64 S.ver, .slice AE n cE, .slice AS m cS])), (122, Fact.at_ wd (.string (bs x))), (123, Fact.at_ wd (.int .u64 (d0 : Int))), (124, Fact.at_ wd (.int .u64 (d0 : Int))), (125, Fact.at_ wd (.bool false)), (126, Fact.at_ wd (.bool false)), (127, Fact.at_ wd (.agg #[.int .i64 7, .slice A n c, .slice AM (m + 1) cM])), (128, Fact.at_ wd (.string (bs x))), (129, Fact.at_ wd (.int .u64 (d0 : Int))), (130, Fact.at_ wd (.int .u64 (d0 : Int))), (131, Fact.at_ wd (.bool false)), (132, Fact.at_ wd (.bool false)), (133, Fact.at_ wd (.bool false)), (134, Fact.at_ wd (.agg #[.int .i64 S.ver, .slice AE n cE, .slice AS m cS])), (135, Fact.at_ wd (.string (bs x))), (136, Fact.at_ wd (.int .i64 (p0 : Int))), (137, Fact.at_ wd (.agg #[.int .i64 S.ver, .slice A n c, .slice (some a2) m c2])), (138, Fact.at_ wd (.string (bs x))), (139, Fact.at_ wd (.int .i64 (p0 : Int))), (140, Fact.at_ wd (.bool false)), (141, Fact.at_ wd (.bool false)), (142, Fact.at_ wd (.bool false)), (143, Fact.at_ wd (.agg #[.int .i64 S.ver, .slice AE n cE, .slice AS m cS])), (144, Fact.at_ wd (.string (bs x))), (145, FUa S x wd), (146, Fact.at_ wd (.agg #[.int .i64 S.ver, .slice A n c, .slice (some a2) m c2])), (147, Fact.at_ wd (.string (bs x))), (148, FUa S x wd), (149, Fact.at_ wd (.bool true)), (150, Fact.at_ wd (.bool false)), (151, Fact.at_ wd (.bool false))]) [1, 3, 6, 12, 13] 153 [121, 122, 123, 124, 125, 126, 127, 128, 129, 130, 131, 132, 133, 134, 135, 136, 137, 138, 139, 140, 141, 142, 143, 144, 145, 146, 147, 148, 149, 150, 151] rfl (by kernel_rfl) (by kernel_rfl) ?_ ?_ ?_
          · intro t9 ht9
            simp only [List.mem_cons, List.not_mem_nil, or_false] at ht9
            rcases ht9 with rfl | rfl | rfl | rfl | rfl
            · exact ⟨rfl, Below.refl _ _⟩
            · exact ⟨rfl, Below.refl _ _⟩
            · exact ⟨rfl, Below.refl _ _⟩
            · exact ⟨rfl, Below.refl _ _⟩
            · exact ⟨rfl, Below.refl _ _⟩
          · refine fcs ⟨at1 3 121 (.pointer (some ⟨g3, 0, none⟩)) (.agg #[.int .i64 S.ver, .slice AE n cE, .slice AS m cS]) rfl (by first | exact .inl rfl | exact .inr ⟨_, _, _, rfl, rfl, by kernel_rfl, by decide, rfl⟩) (by kernel_rfl) rfl rfl (fun a9 W9 hb9 h9 => by have g0 := cell_next hb9 t0; have g1 := cell_next hb9 t1; have g2 := cell_next hb9 t2; simp [execOp, h9] <;> go_simp), ?_⟩
            refine fcs ⟨atcopy 12 122 (.string (bs x)) (.inl rfl) rfl (by first | exact .inl rfl | exact .inr ⟨_, _, _, rfl, rfl, by kernel_rfl, by decide, rfl⟩) (by kernel_rfl) rfl rfl, ?_⟩
            refine fcs ⟨atc2 28 121 122 123 (.agg #[.int .i64 S.ver, .slice AE n cE, .slice AS m cS]) (.string (bs x)) (.int .u64 (d0 : Int)) _ rfl rfl (by first | exact .inl rfl | exact .inr ⟨_, _, _, rfl, rfl, by kernel_rfl, by decide, rfl⟩) (by kernel_rfl) (by kernel_rfl) rfl rfl (by kernel_rfl) rfl (fun W9 hb9 => cD1 W9 hb9), ?_⟩
            refine fcs ⟨atcopy 13 124 (.int .u64 (d0 : Int)) (.inl rfl) rfl (by first | exact .inl rfl | exact .inr ⟨_, _, _, rfl, rfl, by kernel_rfl, by decide, rfl⟩) (by kernel_rfl) rfl rfl, ?_⟩
            refine fcs ⟨at2 123 124 125 (.int .u64 (d0 : Int)) (.int .u64 (d0 : Int)) (.bool false) rfl (by first | exact .inl rfl | exact .inr ⟨_, _, _, rfl, rfl, by kernel_rfl, by decide, rfl⟩) (by kernel_rfl) (by kernel_rfl) rfl rfl rfl (fun a9 W9 hb9 h9 h8 => by simp [execOp, h9, h8] <;> go_simp), ?_⟩
            refine fcs ⟨atcopy 125 126 (.bool false) (.inl rfl) rfl (by first | exact .inl rfl | exact .inr ⟨_, _, _, rfl, rfl, by kernel_rfl, by decide, rfl⟩) (by kernel_rfl) rfl rfl, ?_⟩
            refine fcs ⟨at1 6 127 (.pointer (some ⟨g6, 0, none⟩)) (.agg #[.int .i64 7, .slice A n c, .slice AM (m + 1) cM]) rfl (by first | exact .inl rfl | exact .inr ⟨_, _, _, rfl, rfl, by kernel_rfl, by decide, rfl⟩) (by kernel_rfl) rfl rfl (fun a9 W9 hb9 h9 => by have g0 := cell_next hb9 m0; have g1 := cell_next hb9 m1; have g2 := cell_next hb9 m2; simp [execOp, h9] <;> go_simp), ?_⟩
            refine fcs ⟨atcopy 12 128 (.string (bs x)) (.inl rfl) rfl (by first | exact .inl rfl | exact .inr ⟨_, _, _, rfl, rfl, by kernel_rfl, by decide, rfl⟩) (by kernel_rfl) rfl rfl, ?_⟩
            refine fcs ⟨atc2 28 127 128 129 (.agg #[.int .i64 7, .slice A n c, .slice AM (m + 1) cM]) (.string (bs x)) (.int .u64 (d0 : Int)) _ rfl rfl (by first | exact .inl rfl | exact .inr ⟨_, _, _, rfl, rfl, by kernel_rfl, by decide, rfl⟩) (by kernel_rfl) (by kernel_rfl) rfl rfl (by kernel_rfl) rfl (fun W9 hb9 => cD2 W9 hb9), ?_⟩
            refine fcs ⟨atcopy 13 130 (.int .u64 (d0 : Int)) (.inl rfl) rfl (by first | exact .inl rfl | exact .inr ⟨_, _, _, rfl, rfl, by kernel_rfl, by decide, rfl⟩) (by kernel_rfl) rfl rfl, ?_⟩
            refine fcs ⟨at2 129 130 131 (.int .u64 (d0 : Int)) (.int .u64 (d0 : Int)) (.bool false) rfl (by first | exact .inl rfl | exact .inr ⟨_, _, _, rfl, rfl, by kernel_rfl, by decide, rfl⟩) (by kernel_rfl) (by kernel_rfl) rfl rfl rfl (fun a9 W9 hb9 h9 h8 => by simp [execOp, h9, h8] <;> go_simp), ?_⟩
            refine fcs ⟨atpick 126 131 132 false (.bool false) _ _ rfl rfl rfl (by first | exact .inl rfl | exact .inr ⟨_, _, _, rfl, rfl, by kernel_rfl, by decide, rfl⟩) (by kernel_rfl) (by kernel_rfl) rfl rfl rfl, ?_⟩
            refine fcs ⟨atcopy 132 133 (.bool false) (.inl rfl) rfl (by first | exact .inl rfl | exact .inr ⟨_, _, _, rfl, rfl, by kernel_rfl, by decide, rfl⟩) (by kernel_rfl) rfl rfl, ?_⟩
            refine fcs ⟨at1 3 134 (.pointer (some ⟨g3, 0, none⟩)) (.agg #[.int .i64 S.ver, .slice AE n cE, .slice AS m cS]) rfl (by first | exact .inl rfl | exact .inr ⟨_, _, _, rfl, rfl, by kernel_rfl, by decide, rfl⟩) (by kernel_rfl) rfl rfl (fun a9 W9 hb9 h9 => by have g0 := cell_next hb9 t0; have g1 := cell_next hb9 t1; have g2 := cell_next hb9 t2; simp [execOp, h9] <;> go_simp), ?_⟩
            refine fcs ⟨atcopy 12 135 (.string (bs x)) (.inl rfl) rfl (by first | exact .inl rfl | exact .inr ⟨_, _, _, rfl, rfl, by kernel_rfl, by decide, rfl⟩) (by kernel_rfl) rfl rfl, ?_⟩
            refine fcs ⟨atc2 22 134 135 136 (.agg #[.int .i64 S.ver, .slice AE n cE, .slice AS m cS]) (.string (bs x)) (.int .i64 (p0 : Int)) _ rfl rfl (by first | exact .inl rfl | exact .inr ⟨_, _, _, rfl, rfl, by kernel_rfl, by decide, rfl⟩) (by kernel_rfl) (by kernel_rfl) rfl rfl (by kernel_rfl) rfl (fun W9 hb9 => cP1 W9 hb9), ?_⟩
            refine fcs ⟨at1 1 137 (.pointer (some ⟨w.heap.size, 0, none⟩)) (.agg #[.int .i64 S.ver, .slice A n c, .slice (some a2) m c2]) rfl (by first | exact .inl rfl | exact .inr ⟨_, _, _, rfl, rfl, by kernel_rfl, by decide, rfl⟩) (by kernel_rfl) rfl rfl (fun a9 W9 hb9 h9 => by have g0 := cell_next hb9 s0; have g1 := cell_next hb9 s1; have g2 := cell_next hb9 s2; simp [execOp, h9] <;> go_simp), ?_⟩
            refine fcs ⟨atcopy 12 138 (.string (bs x)) (.inl rfl) rfl (by first | exact .inl rfl | exact .inr ⟨_, _, _, rfl, rfl, by kernel_rfl, by decide, rfl⟩) (by kernel_rfl) rfl rfl, ?_⟩
            refine fcs ⟨atc2 22 137 138 139 (.agg #[.int .i64 S.ver, .slice A n c, .slice (some a2) m c2]) (.string (bs x)) (.int .i64 (p0 : Int)) _ rfl rfl (by first | exact .inl rfl | exact .inr ⟨_, _, _, rfl, rfl, by kernel_rfl, by decide, rfl⟩) (by kernel_rfl) (by kernel_rfl) rfl rfl (by kernel_rfl) rfl (fun W9 hb9 => cP0 W9 hb9), ?_⟩
            refine fcs ⟨at2 136 139 140 (.int .i64 (p0 : Int)) (.int .i64 (p0 : Int)) (.bool false) rfl (by first | exact .inl rfl | exact .inr ⟨_, _, _, rfl, rfl, by kernel_rfl, by decide, rfl⟩) (by kernel_rfl) (by kernel_rfl) rfl rfl rfl (fun a9 W9 hb9 h9 h8 => by simp [execOp, h9, h8] <;> go_simp), ?_⟩
            refine fcs ⟨atpick 133 140 141 false (.bool false) _ _ rfl rfl rfl (by first | exact .inl rfl | exact .inr ⟨_, _, _, rfl, rfl, by kernel_rfl, by decide, rfl⟩) (by kernel_rfl) (by kernel_rfl) rfl rfl rfl, ?_⟩
            refine fcs ⟨atcopy 141 142 (.bool false) (.inl rfl) rfl (by first | exact .inl rfl | exact .inr ⟨_, _, _, rfl, rfl, by kernel_rfl, by decide, rfl⟩) (by kernel_rfl) rfl rfl, ?_⟩
            refine fcs ⟨at1 3 143 (.pointer (some ⟨g3, 0, none⟩)) (.agg #[.int .i64 S.ver, .slice AE n cE, .slice AS m cS]) rfl (by first | exact .inl rfl | exact .inr ⟨_, _, _, rfl, rfl, by kernel_rfl, by decide, rfl⟩) (by kernel_rfl) rfl rfl (fun a9 W9 hb9 h9 => by have g0 := cell_next hb9 t0; have g1 := cell_next hb9 t1; have g2 := cell_next hb9 t2; simp [execOp, h9] <;> go_simp), ?_⟩
            refine fcs ⟨atcopy 12 144 (.string (bs x)) (.inl rfl) rfl (by first | exact .inl rfl | exact .inr ⟨_, _, _, rfl, rfl, by kernel_rfl, by decide, rfl⟩) (by kernel_rfl) rfl rfl, ?_⟩
            refine fcs ⟨at_enter (W0 := wd) (by first | exact .inl rfl | exact .inr ⟨_, _, _, rfl, rfl, by kernel_rfl, by decide, rfl⟩) (fun a9 W9 hf9 => by have p143 := hf9 143 (by kernel_rfl); have q143 : a9.tmps.getD 143 undef = (.agg #[.int .i64 S.ver, .slice AE n cE, .slice AS m cS]) := p143.1; have p144 := hf9 144 (by kernel_rfl); have q144 : a9.tmps.getD 144 undef = (.string (bs x)) := p144.1; have hb9 := p143.2; exact ⟨25, #[(.agg #[.int .i64 S.ver, .slice AE n cE, .slice AS m cS]), (.string (bs x))], by rw [← q143, ← q144]; simpa [execOp, resolve, Act.eval] using run_invoke (by kernel_rfl) _ W9, (cU1 W9 p143.2).mono fun e w' ⟨v, l, e1, e2, e3, e4⟩ => ⟨v, e1, e4, fun s hs => by injection hs with hs; subst hs; exact ⟨l, e2, e3, upG hb9 e4⟩⟩⟩), ?_⟩
            refine fcs ⟨at1 1 146 (.pointer (some ⟨w.heap.size, 0, none⟩)) (.agg #[.int .i64 S.ver, .slice A n c, .slice (some a2) m c2]) rfl (by first | exact .inl rfl | exact .inr ⟨_, _, _, rfl, rfl, by kernel_rfl, by decide, rfl⟩) (by kernel_rfl) rfl rfl (fun a9 W9 hb9 h9 => by have g0 := cell_next hb9 s0; have g1 := cell_next hb9 s1; have g2 := cell_next hb9 s2; simp [execOp, h9] <;> go_simp), ?_⟩
            refine fcs ⟨atcopy 12 147 (.string (bs x)) (.inl rfl) rfl (by first | exact .inl rfl | exact .inr ⟨_, _, _, rfl, rfl, by kernel_rfl, by decide, rfl⟩) (by kernel_rfl) rfl rfl, ?_⟩
            refine fcs ⟨at_enter (W0 := wd) (by first | exact .inl rfl | exact .inr ⟨_, _, _, rfl, rfl, by kernel_rfl, by decide, rfl⟩) (fun a9 W9 hf9 => by have p146 := hf9 146 (by kernel_rfl); have q146 : a9.tmps.getD 146 undef = (.agg #[.int .i64 S.ver, .slice A n c, .slice (some a2) m c2]) := p146.1; have p147 := hf9 147 (by kernel_rfl); have q147 : a9.tmps.getD 147 undef = (.string (bs x)) := p147.1; have hb9 := p146.2; exact ⟨25, #[(.agg #[.int .i64 S.ver, .slice A n c, .slice (some a2) m c2]), (.string (bs x))], by rw [← q146, ← q147]; simpa [execOp, resolve, Act.eval] using run_invoke (by kernel_rfl) _ W9, (cU0 W9 p146.2).mono fun e w' ⟨v, l, e1, e2, e3, e4⟩ => ⟨v, e1, e4, fun s hs => by injection hs with hs; subst hs; exact ⟨l, e2, e3, upG hb9 e4⟩⟩⟩), ?_⟩
            refine fcs ⟨at_enter (W0 := wd) (by first | exact .inl rfl | exact .inr ⟨_, _, _, rfl, rfl, by kernel_rfl, by decide, rfl⟩) (fun a9 W9 hf9 => by obtain ⟨l, u1, u2, u3⟩ := hf9 145 (by kernel_rfl); obtain ⟨l', k1, k2, k3⟩ := hf9 148 (by kernel_rfl); obtain rfl := u1.one k1; have cN := lawNames_any l l _ _ W9 (u1.short hB) (u1.short hB) u2 k2; rw [decide_eq_true rfl] at cN; exact ⟨24, #[a9.tmps.getD 145 undef, a9.tmps.getD 148 undef], by simpa [execOp, resolve, Act.eval] using run_invoke (by kernel_rfl) _ W9, cN.mono fun e w' ⟨e1, e2⟩ => ⟨.bool true, e1, e2, fun s hs => by injection hs with hs; subst hs; exact ⟨rfl, upG u3 e2⟩⟩⟩), ?_⟩
            refine fcs ⟨at1 149 150 (.bool true) (.bool false) rfl (by first | exact .inl rfl | exact .inr ⟨_, _, _, rfl, rfl, by kernel_rfl, by decide, rfl⟩) (by kernel_rfl) rfl rfl (fun a9 W9 hb9 h9 => by simp [execOp, h9] <;> go_simp), ?_⟩
            refine fcs ⟨atpick 142 150 151 false (.bool false) _ _ rfl rfl rfl (by first | exact .inl rfl | exact .inr ⟨_, _, _, rfl, rfl, by kernel_rfl, by decide, rfl⟩) (by kernel_rfl) (by kernel_rfl) rfl rfl rfl, ?_⟩
            exact fnl
          intro vv wv hvv hbv
          have hv151 : vv 151 = (.bool false) := (hvv 151 (by decide)).1
          simp only [lay, List.foldl_cons, List.foldl_nil, List.setIfInBounds_toArray, List.set_cons_succ, List.set_cons_zero, hv151]
          have hb7 := Below.next hbx hbv
          have Q1 := R1.next hbv
          have Q2 := T1.next hbv
          have Q3 := M1.next hbv
          clear hvv cD1 cD2 cP1 cP0 cU1 cU0 s0 s1 s2 lw1 t0 t1 t2 lw2 m0 m1 m2 lw3 R1 T1 M1
          go_wp2_with fail
          go_roundw
          case rel => exact ⟨k + 1, by omega, by go_num, Q1, Q2, Q3, hb7⟩
          case measure => simp [intOf]; omega
        · obtain rfl : k = m := by omega
          go_wp2_with fail
          refine (awake_any _ (hE.next hbw)).mono ?_
          rintro e wz ⟨rfl, hbz⟩
          go_wp2_with fail
          go_ret
          exact ⟨rfl, Below.next hbw hbz⟩
theorem order_row (S : Sch) (v : Value) (w : World) (hl : lokS S) (hv : ScV w S v) (hL : laidMetH Tryz.prog Rows.schemaOrderRow.laid w) :
    Calls Tryz.prog 8 #[v] w (Ib (.bool true) w) := schemaOrder_any S v w hl hv (env_laid hL) (tabs_laid hL)
end Go.Proofs.YthbhbpcjcnkkkaaGreatDoor
