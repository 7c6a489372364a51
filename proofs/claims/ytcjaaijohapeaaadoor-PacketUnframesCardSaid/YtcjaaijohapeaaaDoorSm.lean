/-
  Schemas as data, and that their descriptions tell them apart. No conditions beyond those that each names.
-/
namespace Go.Proofs.YtcjaaijohapeaaaDoor
/-- A varint's bytes. -/
def uv (n : Nat) : List UInt8 := if n < 128 then [UInt8.ofNat n] else UInt8.ofNat (128 + n % 128) :: uv (n / 128)
termination_by n
decreasing_by omega
theorem uv_small {n : Nat} (h : n < 128) : uv n = [UInt8.ofNat n] := by rw [uv, if_pos h]
theorem uv_big {n : Nat} (h : ¬ n < 128) : uv n = UInt8.ofNat (128 + n % 128) :: uv (n / 128) := by rw [uv, if_neg h]
theorem of_nat_inj {a b : Nat} (ha : a < 256) (hb : b < 256) (h : UInt8.ofNat a = UInt8.ofNat b) : a = b := by
  have := congrArg UInt8.toNat h
  rw [UInt8.toNat_ofNat', UInt8.toNat_ofNat'] at this
  rw [Nat.mod_eq_of_lt ha, Nat.mod_eq_of_lt hb] at this
  exact this
theorem uv_inj (n : Nat) : ∀ (m : Nat) (r s : List UInt8), uv n ++ r = uv m ++ s → n = m ∧ r = s := by
  induction n using Nat.strongRecOn with
  | ind n ih =>
    intro m r s h
    by_cases hn : n < 128
    · rw [uv_small hn] at h
      by_cases hm : m < 128
      · rw [uv_small hm] at h
        injection h with h1 h2
        exact ⟨of_nat_inj (by omega) (by omega) h1, h2⟩
      · rw [uv_big hm] at h
        injection h with h1 h2
        have := of_nat_inj (by omega) (by omega) h1
        omega
    · rw [uv_big hn] at h
      by_cases hm : m < 128
      · rw [uv_small hm] at h
        injection h with h1 h2
        have := of_nat_inj (by omega) (by omega) h1
        omega
      · rw [uv_big hm] at h
        injection h with h1 h2
        have h3 := of_nat_inj (by omega) (by omega) h1
        obtain ⟨h4, h5⟩ := ih (n / 128) (by omega) (m / 128) r s h2
        exact ⟨by omega, h5⟩
theorem uv_ne (n : Nat) : uv n ≠ [] := by
  by_cases h : n < 128
  · rw [uv_small h]; simp
  · rw [uv_big h]; simp
/-- An int as it is written. -/
def cnt (n : Int) : List UInt8 := uv (n % 18446744073709551616).toNat
def i64 (n : Int) : Prop := -9223372036854775808 ≤ n ∧ n ≤ 9223372036854775807
theorem cnt_inj {n m : Int} {r s : List UInt8} (hn : i64 n) (hm : i64 m) (h : cnt n ++ r = cnt m ++ s) : n = m ∧ r = s := by
  obtain ⟨h1, h2⟩ := uv_inj _ _ _ _ h
  unfold i64 at hn hm
  exact ⟨by omega, h2⟩
/-- A text as it is written. -/
def txt (t : List UInt8) : List UInt8 := uv t.length ++ t
theorem txt_inj {t u r s : List UInt8} (h : txt t ++ r = txt u ++ s) : t = u ∧ r = s := by
  unfold txt at h
  rw [List.append_assoc, List.append_assoc] at h
  obtain ⟨h1, h2⟩ := uv_inj _ _ _ _ h
  exact List.append_inj h2 h1
/-- A type. -/
inductive Ty where
  | mk : Int → Int → List UInt8 → List Ty → Ty
mutual
/-- A type's description. -/
def dt : Ty → List UInt8
  | .mk k s n e => cnt k ++ (cnt s ++ (txt n ++ (uv e.length ++ dts e)))
def dts : List Ty → List UInt8
  | [] => []
  | t :: ts => dt t ++ dts ts
end
mutual
def inT : Ty → Prop
  | .mk k s _ e => i64 k ∧ i64 s ∧ inTs e
def inTs : List Ty → Prop
  | [] => True
  | t :: ts => inT t ∧ inTs ts
end
mutual
theorem dt_inj : ∀ (t u : Ty) (r s : List UInt8), inT t → inT u → dt t ++ r = dt u ++ s → t = u ∧ r = s
  | .mk k z n e, .mk k' z' n' e', r, s, ht, hu, h => by
    rw [dt, dt] at h
    simp only [List.append_assoc] at h
    rw [inT] at ht hu
    obtain ⟨h1, h⟩ := cnt_inj ht.1 hu.1 h
    obtain ⟨h2, h⟩ := cnt_inj ht.2.1 hu.2.1 h
    obtain ⟨h3, h⟩ := txt_inj h
    obtain ⟨h4, h⟩ := uv_inj _ _ _ _ h
    obtain ⟨h5, h⟩ := dts_inj e e' r s h4 ht.2.2 hu.2.2 h
    exact ⟨by rw [h1, h2, h3, h5], h⟩
theorem dts_inj : ∀ (ts us : List Ty) (r s : List UInt8), ts.length = us.length → inTs ts → inTs us → dts ts ++ r = dts us ++ s → ts = us ∧ r = s
  | [], [], r, s, _, _, _, h => ⟨rfl, by simpa [dts] using h⟩
  | [], _ :: _, _, _, hl, _, _, _ => by cases hl
  | _ :: _, [], _, _, hl, _, _, _ => by cases hl
  | t :: ts, u :: us, r, s, hl, ht, hu, h => by
    rw [dts, dts, List.append_assoc, List.append_assoc] at h
    rw [inTs] at ht hu
    obtain ⟨h1, h⟩ := dt_inj t u _ _ ht.1 hu.1 h
    obtain ⟨h2, h⟩ := dts_inj ts us r s (by simpa using hl) ht.2 hu.2 h
    exact ⟨by rw [h1, h2], h⟩
end
/-- A field, a struct, an enumeration. -/
structure Fd where
  num : Int
  name : List UInt8
  opt : Bool
  type : Ty
structure St where
  name : List UInt8
  fields : List Fd
structure En where
  name : List UInt8
  names : List (List UInt8)
  nums : List Int
def dfd (f : Fd) : List UInt8 := cnt f.num ++ (txt f.name ++ (dt f.type ++ [if f.opt then 1 else 0]))
def dfds : List Fd → List UInt8
  | [] => []
  | f :: fs => dfd f ++ dfds fs
def inF (f : Fd) : Prop := i64 f.num ∧ inT f.type
theorem dfd_inj {f g : Fd} {r s : List UInt8} (hf : inF f) (hg : inF g) (h : dfd f ++ r = dfd g ++ s) : f = g ∧ r = s := by
  obtain ⟨a, b, c, d⟩ := f
  obtain ⟨a', b', c', d'⟩ := g
  unfold dfd at h
  simp only [List.append_assoc] at h
  obtain ⟨h1, h⟩ := cnt_inj hf.1 hg.1 h
  obtain ⟨h2, h⟩ := txt_inj h
  obtain ⟨h3, h⟩ := dt_inj _ _ _ _ hf.2 hg.2 h
  injection h with h4 h5
  refine ⟨?_, h5⟩
  have h4 : c = c' := by
    cases c <;> cases c'
    · rfl
    · simp at h4
    · simp at h4
    · rfl
  have h1 : a = a' := h1
  have h2 : b = b' := h2
  have h3 : d = d' := h3
  rw [h1, h2, h3, h4]
theorem dfds_inj : ∀ (fs gs : List Fd) (r s : List UInt8), fs.length = gs.length → (∀ f ∈ fs, inF f) → (∀ g ∈ gs, inF g) → dfds fs ++ r = dfds gs ++ s → fs = gs ∧ r = s
  | [], [], r, s, _, _, _, h => ⟨rfl, by simpa [dfds] using h⟩
  | [], _ :: _, _, _, hl, _, _, _ => by cases hl
  | _ :: _, [], _, _, hl, _, _, _ => by cases hl
  | f :: fs, g :: gs, r, s, hl, hf, hg, h => by
    rw [dfds, dfds, List.append_assoc, List.append_assoc] at h
    obtain ⟨h1, h⟩ := dfd_inj (hf f (by simp)) (hg g (by simp)) h
    obtain ⟨h2, h⟩ := dfds_inj fs gs r s (by simpa using hl) (fun x hx => hf x (by simp [hx])) (fun x hx => hg x (by simp [hx])) h
    exact ⟨by rw [h1, h2], h⟩
def dst (x : St) : List UInt8 := uv 6 ++ (txt x.name ++ (uv x.fields.length ++ dfds x.fields))
def dns : List (List UInt8) → List Int → List UInt8
  | n :: ns, k :: ks => txt n ++ (cnt k ++ dns ns ks)
  | _, _ => []
def den (x : En) : List UInt8 := uv 7 ++ (txt x.name ++ (uv x.names.length ++ dns x.names x.nums))
theorem dns_inj : ∀ (ns ms : List (List UInt8)) (ks js : List Int) (r s : List UInt8), ns.length = ms.length → ks.length = ns.length → js.length = ms.length → (∀ k ∈ ks, i64 k) → (∀ k ∈ js, i64 k) → dns ns ks ++ r = dns ms js ++ s → ns = ms ∧ ks = js ∧ r = s
  | [], [], [], [], r, s, _, _, _, _, _, h => ⟨rfl, rfl, by simpa [dns] using h⟩
  | n :: ns, m :: ms, k :: ks, j :: js, r, s, h1, h2, h3, hk, hj, h => by
    rw [dns, dns] at h
    simp only [List.append_assoc] at h
    obtain ⟨e1, h⟩ := txt_inj h
    obtain ⟨e2, h⟩ := cnt_inj (hk k (by simp)) (hj j (by simp)) h
    obtain ⟨e3, e4, h⟩ := dns_inj ns ms ks js r s (by simpa using h1) (by simpa using h2) (by simpa using h3) (fun x hx => hk x (by simp [hx])) (fun x hx => hj x (by simp [hx])) h
    exact ⟨by rw [e1, e3], by rw [e2, e4], h⟩
  | [], _ :: _, _, _, _, _, h1, _, _, _, _, _ => by cases h1
  | _ :: _, [], _, _, _, _, h1, _, _, _, _, _ => by cases h1
  | [], [], _ :: _, _, _, _, _, h2, _, _, _, _ => by cases h2
  | [], [], [], _ :: _, _, _, _, _, h3, _, _, _ => by cases h3
  | _ :: _, _ :: _, [], _, _, _, _, h2, _, _, _, _ => by cases h2
  | _ :: _, _ :: _, _ :: _, [], _, _, _, _, h3, _, _, _ => by cases h3
/-- A definition. -/
inductive Df where
  | st : St → Df
  | en : En → Df
def dd : Df → List UInt8
  | .st x => dst x
  | .en x => den x
def inD : Df → Prop
  | .st x => ∀ f ∈ x.fields, inF f
  | .en x => x.nums.length = x.names.length ∧ ∀ k ∈ x.nums, i64 k
theorem dd_inj {a b : Df} {r s : List UInt8} (ha : inD a) (hb : inD b) (h : dd a ++ r = dd b ++ s) : a = b ∧ r = s := by
  match a, b, ha, hb, h with
  | .st ⟨n, fs⟩, .st ⟨m, gs⟩, ha, hb, h =>
    unfold dd dst at h
    simp only [List.append_assoc] at h
    obtain ⟨-, h⟩ := uv_inj _ _ _ _ h
    obtain ⟨h1, h⟩ := txt_inj h
    obtain ⟨h2, h⟩ := uv_inj _ _ _ _ h
    obtain ⟨h3, h⟩ := dfds_inj fs gs r s h2 ha hb h
    exact ⟨by rw [h1, h3], h⟩
  | .en ⟨n, ns, ks⟩, .en ⟨m, ms, js⟩, ha, hb, h =>
    unfold dd den at h
    simp only [List.append_assoc] at h
    obtain ⟨-, h⟩ := uv_inj _ _ _ _ h
    obtain ⟨h1, h⟩ := txt_inj h
    obtain ⟨h2, h⟩ := uv_inj _ _ _ _ h
    obtain ⟨h3, h4, h⟩ := dns_inj ns ms ks js r s h2 ha.1 hb.1 ha.2 hb.2 h
    exact ⟨by rw [h1, h3, h4], h⟩
  | .st x, .en y, _, _, h =>
    unfold dd dst den at h
    simp only [List.append_assoc] at h
    exact absurd (uv_inj _ _ _ _ h).1 (by decide)
  | .en x, .st y, _, _, h =>
    unfold dd dst den at h
    simp only [List.append_assoc] at h
    exact absurd (uv_inj _ _ _ _ h).1 (by decide)
theorem dd_ne (a : Df) : dd a ≠ [] := by
  intro h
  cases a with
  | st x => exact uv_ne 6 (List.append_eq_nil_iff.1 h).1
  | en x => exact uv_ne 7 (List.append_eq_nil_iff.1 h).1
/-- Definitions' descriptions, one after the other, tell the definitions. -/
def dds : List Df → List UInt8
  | [] => []
  | a :: l => dd a ++ dds l
theorem dds_inj : ∀ (l m : List Df), (∀ a ∈ l, inD a) → (∀ a ∈ m, inD a) → dds l = dds m → l = m
  | [], [], _, _, _ => rfl
  | [], b :: m, _, _, h => by
    rw [dds, dds] at h
    exact absurd (List.append_eq_nil_iff.1 h.symm).1 (dd_ne b)
  | a :: l, [], _, _, h => by
    rw [dds, dds] at h
    exact absurd (List.append_eq_nil_iff.1 h).1 (dd_ne a)
  | a :: l, b :: m, hl, hm, h => by
    rw [dds, dds] at h
    obtain ⟨h1, h⟩ := dd_inj (hl a (by simp)) (hm b (by simp)) h
    rw [h1, dds_inj l m (fun x hx => hl x (by simp [hx])) (fun x hx => hm x (by simp [hx])) h]
end Go.Proofs.YtcjaaijohapeaaaDoor
