import Derived.Test.YtndidbanbklonaaCb
/-
  How many arrivals a script causes. No conditions beyond those that each names.
-/
namespace Go.Proofs.Ytndidbanbklonaa
open Go.RowKit Go.Sort Go.Lib Go.Shelf
/-- How many duplications a list of faults holds. -/
def dp (fs : List Ft) : Nat := fs.countP (fun y => y.k == 3)
theorem dlv_len {at_ fr to_ : Int} : ∀ (fs : List Ft) (o : Int) (l : List Int) (r : Int × List Int), dlv at_ fr to_ fs o l = some r → r.2.length ≤ l.length + dp fs
  | [], o, l, r, h => by
    injection h with h
    subst h
    exact Nat.le_add_right _ _
  | y :: ys, o, l, r, h => by
    have hd : dp ys ≤ dp (y :: ys) ∧ (y.k = 3 → dp (y :: ys) = dp ys + 1) := by
      unfold dp
      rw [List.countP_cons]
      refine ⟨Nat.le_add_right _ _, fun e => ?_⟩
      rw [if_pos (by rw [e]; rfl)]
    unfold dlv at h
    split at h
    · split at h
      · cases h
      · split at h
        · have := dlv_len ys _ _ r h; omega
        · split at h
          · rename_i e
            have h1 := dlv_len ys _ _ r h
            rw [List.length_append] at h1
            have h2 := hd.2 e
            simp only [List.length_cons, List.length_nil] at h1
            omega
          · have := dlv_len ys _ _ r h; omega
    · have := dlv_len ys _ _ r h; omega
theorem arT_len (lat at_ fr to_ : Int) (fs : List Ft) : (arT lat at_ fr to_ fs).length ≤ 1 + dp fs := by
  unfold arT
  cases h : dlv at_ fr to_ fs (at_ + lat) [] with
  | none => exact Nat.zero_le _
  | some r =>
    have := dlv_len fs _ _ r h
    simp only [List.length_nil, Nat.zero_add] at this
    simp only [List.length_cons, List.length_map]
    omega
theorem ars_len (q : Nat → Opn) (S : Ns) : ∀ i, (ars q S i).length ≤ (1 + dp S.fs) * (sr q S i).2.length
  | 0 => Nat.zero_le _
  | i + 1 => by
    have ih := ars_len q S i
    by_cases he : sndE (sr q S i).1 (q i).at_ (q i).fr (q i).to_ (q i).dat.size = 0
    · rw [ars, if_pos he, sr, if_pos he]
      have h1 := arT_len S.lat (q i).at_ (q i).fr (q i).to_ S.fs
      simp only [List.length_append, List.length_map, List.length_cons, List.length_nil]
      rw [Nat.mul_add]
      omega
    · rw [ars, if_neg he, sr, if_neg he]
      exact ih
theorem ars_cnt (q : Nat → Opn) (S : Ns) (hl : 0 ≤ S.lat ∧ S.lat ≤ 1099511627776) (hf : S.fs.length ≤ 64) (hx : ∀ y ∈ S.fs, 0 ≤ y.x ∧ y.x ≤ 1099511627776) (h0 : S.sent = 0) (n : Nat) : ∀ i, (ars q S i).countP (fun a => a.num == n) ≤ 1 + dp S.fs
  | 0 => Nat.zero_le _
  | i + 1 => by
    have ih := ars_cnt q S hl hf hx h0 n i
    by_cases he : sndE (sr q S i).1 (q i).at_ (q i).fr (q i).to_ (q i).dat.size = 0
    · rw [ars, if_pos he, List.countP_append]
      have hs := (sr_sent q S h0 i).1
      by_cases hn : (sr q S i).1.sent + 1 = n
      · have h1 : (ars q S i).countP (fun a => a.num == n) = 0 := List.countP_eq_zero.2 fun a ha e => by
          obtain ⟨j, hj, k, -⟩ := ars_mem q S hl hf hx h0 i a ha
          have e := of_decide_eq_true e
          omega
        have h2 := arT_len S.lat (q i).at_ (q i).fr (q i).to_ S.fs
        have h3 := List.countP_le_length (p := fun a : Ar => a.num == n) (l := (arT S.lat (q i).at_ (q i).fr (q i).to_ S.fs).map (fun t => (⟨t, (q i).fr, (q i).to_, (sr q S i).1.sent + 1, (q i).dat⟩ : Ar)))
        rw [List.length_map] at h3
        omega
      · have h1 : ((arT S.lat (q i).at_ (q i).fr (q i).to_ S.fs).map (fun t => (⟨t, (q i).fr, (q i).to_, (sr q S i).1.sent + 1, (q i).dat⟩ : Ar))).countP (fun a => a.num == n) = 0 := List.countP_eq_zero.2 fun a ha e => by
          obtain ⟨t, -, rfl⟩ := List.mem_map.1 ha
          exact hn (of_decide_eq_true e)
        omega
    · rw [ars, if_neg he]
      exact ih
/-- All that a script's arrivals keep. -/
structure Cvs (fs : List Ft) (lat : Int) (l sl : List Ar) : Prop where
  len : l.length ≤ (1 + dp fs) * sl.length
  mem : ∀ a ∈ l, ∃ j, ∃ hj : j < sl.length, a.num = j + 1 ∧ a.fr = (sl[j]'hj).fr ∧ a.to_ = (sl[j]'hj).to_ ∧ a.dat = (sl[j]'hj).dat ∧ (sl[j]'hj).at_ + lat ≤ a.at_ ∧ 0 ≤ a.at_ ∧ a.at_ ≤ 73667279060992
  asc : l.Pairwise fun x y => x.at_ ≤ y.at_
  cnt : ∀ n, l.countP (fun a => a.num == n) ≤ 1 + dp fs
theorem cvs_of (q : Nat → Opn) (S : Ns) (h0 : 0 ≤ S.rch ∧ S.rch ≤ 1099511627776) (hq : Okq S.q) (hfl : S.q.fl = []) (hl : 0 ≤ S.lat ∧ S.lat ≤ 1099511627776) (hf : S.fs.length ≤ 64) (hx : ∀ y ∈ S.fs, 0 ≤ y.x ∧ y.x ≤ 1099511627776) (hs : S.sent = 0) (i : Nat) {l r : List Ar} (e : (sr q S i).1.q.fl = l ++ r) (hr : ∀ a ∈ r, (1152921504606846976 : Int) < a.at_) : Cvs S.fs S.lat l (sr q S i).2 := by
  obtain ⟨k1, k2⟩ := sr_perm q S h0 hq hfl i
  have hm := ars_mem q S hl hf hx hs i
  have hr0 : r = [] := by
    cases r with
    | nil => rfl
    | cons a r =>
      exfalso
      have h1 := hr a (List.mem_cons_self ..)
      have h2 : a ∈ (sr q S i).1.q.fl := by rw [e]; exact List.mem_append_right _ (List.mem_cons_self ..)
      obtain ⟨j, hj, -, -, -, -, -, -, k⟩ := hm a (k2.mem_iff.1 h2)
      omega
  subst hr0
  rw [List.append_nil] at e
  rw [e] at k2
  refine ⟨?_, fun a ha => hm a (k2.mem_iff.1 ha), by rw [← e]; exact fl_sorted k1, fun n => ?_⟩
  · rw [k2.length_eq]; exact ars_len q S i
  · rw [k2.countP_eq]; exact ars_cnt q S hl hf hx hs n i
/-- The count after one more. -/
theorem cnt_take {l : List Ar} (i n : Nat) (hi : i < l.length) : (l.take (i + 1)).countP (fun a => a.num == n) = (l.take i).countP (fun a => a.num == n) + if (l[i]'hi).num = n then 1 else 0 := by
  rw [List.take_succ_eq_append_getElem hi, List.countP_append, List.countP_cons, List.countP_nil, Nat.zero_add]
  congr 1
  by_cases h : (l[i]'hi).num = n
  · rw [if_pos h, if_pos (by simpa using h)]
  · rw [if_neg h, if_neg (by simpa using h)]
theorem cnt_take_le {l : List Ar} (i n : Nat) : (l.take i).countP (fun a => a.num == n) ≤ l.countP (fun a => a.num == n) := (List.take_sublist i l).countP_le
theorem dp_take {l : List Ft} (i : Nat) (hi : i < l.length) : dp (l.take (i + 1)) = dp (l.take i) + if (l[i]'hi).k = 3 then 1 else 0 := by
  unfold dp
  rw [List.take_succ_eq_append_getElem hi, List.countP_append, List.countP_cons, List.countP_nil, Nat.zero_add]
  congr 1
  by_cases h : (l[i]'hi).k = 3
  · rw [if_pos h, if_pos (by simpa using h)]
  · rw [if_neg h, if_neg (by simpa using h)]
theorem dp_len (l : List Ft) : dp l ≤ l.length := List.countP_le_length
end Go.Proofs.Ytndidbanbklonaa
