/-
  Schemas as data, and that their descriptions tell them apart. No conditions beyond those that each names.
-/
namespace Go.Proofs.YtcjaaijohapeaaaDoor
/-- A varint's bytes. -/
def uv (n : Nat) : List UInt8 := if n < 128 then [UInt8.ofNat n] else UInt8.ofNat (128 + n % 128) :: uv (n / 128)
termination_by n
decreasing_by omega
theorem uv_small {n : Nat} (h : n < 128) : uv n = [UInt8.ofNat n] := by rw [uv, if_pos h]
theorem uv_big {n : Nat} (h : ¬ n < 128) : uv n = UInt8.ofNat (128 + n % 128) :: uv (n / 128) := by rw [uv, if_neg h]
theorem of_nat_inj {a b : Nat} (ha : a < 256) (hb : b < 256) (h : UInt8.ofNat a = UInt8.ofNat b) : a = b := by
  have := congrArg UInt8.toNat h
  rw [UInt8.toNat_ofNat', UInt8.toNat_ofNat'] at this
  rw [Nat.mod_eq_of_lt ha, Nat.mod_eq_of_lt hb] at this
  exact this
theorem uv_inj (n : Nat) : ∀ (m : Nat) (r s : List UInt8), uv n ++ r = uv m ++ s → n = m ∧ r = s := by
  induction n using Nat.strongRecOn with
  | ind n ih =>
    intro m r s h
    by_cases hn : n < 128
    · rw [uv_small hn] at h
      by_cases hm : m < 128
      · rw [uv_small hm] at h
        injection h with h1 h2
        exact ⟨of_nat_inj (by omega) (by omega) h1, h2⟩
      · rw [uv_big hm] at h
        injection h with h1 h2
        have := of_nat_inj (by omega) (by omega) h1
        omega
    · rw [uv_big hn] at h
      by_cases hm : m < 128
      · rw [uv_small hm] at h
        injection h with h1 h2
        have := of_nat_inj (by omega) (by omega) h1
        omega
      · rw [uv_big hm] at h
        injection h with h1 h2
        have h3 := of_nat_inj (by omega) (by omega) h1
        obtain ⟨h4, h5⟩ := ih (n / 128) (by omega) (m / 128) r s h2
        exact ⟨by omega, h5⟩
theorem uv_ne (n : Nat) : uv n ≠ [] := by
  by_cases h : n < 128
  · rw [uv_small h]; simp
  · rw [uv_big h]; simp
/-- An int as it is written. -/
def cnt (n : Int) : List UInt8 := uv (n % 18446744073709551616).toNat
def i64 (n : Int) : Prop := -9223372036854775808 ≤ n ∧ n ≤ 9223372036854775807
theorem cnt_inj {n m : Int} {r s : List UInt8} (hn : i64 n) (hm : i64 m) (h : cnt n ++ r = cnt m ++ s) : n = m ∧ r = s := by
  obtain ⟨h1, h2⟩ := uv_inj _ _ _ _ h
  unfold i64 at hn hm
  exact ⟨by omega, h2⟩
/-- A text as it is written. -/
def txt (t : List UInt8) : List UInt8 := uv t.length ++ t
theorem txt_inj {t u r s : List UInt8} (h : txt t ++ r = txt u ++ s) : t = u ∧ r = s := by
  unfold txt at h
  rw [List.append_assoc, List.append_assoc] at h
  obtain ⟨h1, h2⟩ := uv_inj _ _ _ _ h
  exact List.append_inj h2 h1
/-- A type. -/
inductive Ty where
  | mk : Int → Int → List UInt8 → List Ty → Ty
mutual
/-- A type's description. -/
def dt : Ty → List UInt8
  | .mk k s n e => cnt k ++ (cnt s ++ (txt n ++ (uv e.length ++ dts e)))
def dts : List Ty → List UInt8
  | [] => []
  | t :: ts => dt t ++ dts ts
end
mutual
def inT : Ty → Prop
  | .mk k s _ e => i64 k ∧ i64 s ∧ inTs e
def inTs : List Ty → Prop
  | [] => True
  | t :: ts => inT t ∧ inTs ts
end
mutual
theorem dt_inj : ∀ (t u : Ty) (r s : List UInt8), inT t → inT u → dt t ++ r = dt u ++ s → t = u ∧ r = s
  | .mk k z n e, .mk k' z' n' e', r, s, ht, hu, h => by
    rw [dt, dt] at h
    simp only [List.append_assoc] at h
    rw [inT] at ht hu
    obtain ⟨h1, h⟩ := cnt_inj ht.1 hu.1 h
    obtain ⟨h2, h⟩ := cnt_inj ht.2.1 hu.2.1 h
    obtain ⟨h3, h⟩ := txt_inj h
    obtain ⟨h4, h⟩ := uv_inj _ _ _ _ h
    obtain ⟨h5, h⟩ := dts_inj e e' r s h4 ht.2.2 hu.2.2 h
    exact ⟨by rw [h1, h2, h3, h5], h⟩
theorem dts_inj : ∀ (ts us : List Ty) (r s : List UInt8), ts.length = us.length → inTs ts → inTs us → dts ts ++ r = dts us ++ s → ts = us ∧ r = s
  | [], [], r, s, _, _, _, h => ⟨rfl, by simpa [dts] using h⟩
  | [], _ :: _, _, _, hl, _, _, _ => by cases hl
  | _ :: _, [], _, _, hl, _, _, _ => by cases hl
  | t :: ts, u :: us, r, s, hl, ht, hu, h => by
    rw [dts, dts, List.append_assoc, List.append_assoc] at h
    rw [inTs] at ht hu
    obtain ⟨h1, h⟩ := dt_inj t u _ _ ht.1 hu.1 h
    obtain ⟨h2, h⟩ := dts_inj ts us r s (by simpa using hl) ht.2 hu.2 h
    exact ⟨by rw [h1, h2], h⟩
end
/-- A field, a struct, an enumeration. -/
structure Fd where
  num : Int
  name : List UInt8
  opt : Bool
  type : Ty
structure St where
  name : List UInt8
  fields : List Fd
structure En where
  name : List UInt8
  names : List (List UInt8)
  nums : List Int
def dfd (f : Fd) : List UInt8 := cnt f.num ++ (txt f.name ++ (dt f.type ++ [if f.opt then 1 else 0]))
def dfds : List Fd → List UInt8
  | [] => []
  | f :: fs => dfd f ++ dfds fs
def inF (f : Fd) : Prop := i64 f.num ∧ inT f.type
theorem dfd_inj {f g : Fd} {r s : List UInt8} (hf : inF f) (hg : inF g) (h : dfd f ++ r = dfd g ++ s) : f = g ∧ r = s := by
  obtain ⟨a, b, c, d⟩ := f
  obtain ⟨a', b', c', d'⟩ := g
  unfold dfd at h
  simp only [List.append_assoc] at h
  obtain ⟨h1, h⟩ := cnt_inj hf.1 hg.1 h
  obtain ⟨h2, h⟩ := txt_inj h
  obtain ⟨h3, h⟩ := dt_inj _ _ _ _ hf.2 hg.2 h
  injection h with h4 h5
  refine ⟨?_, h5⟩
  have h4 : c = c' := by
    cases c <;> cases c'
    · rfl
    · simp at h4
    · simp at h4
    · rfl
  have h1 : a = a' := h1
  have h2 : b = b' := h2
  have h3 : d = d' := h3
  rw [h1, h2, h3, h4]
theorem dfds_inj : ∀ (fs gs : List Fd) (r s : List UInt8), fs.length = gs.length → (∀ f ∈ fs, inF f) → (∀ g ∈ gs, inF g) → dfds fs ++ r = dfds gs ++ s → fs = gs ∧ r = s
  | [], [], r, s, _, _, _, h => ⟨rfl, by simpa [dfds] using h⟩
  | [], _ :: _, _, _, hl, _, _, _ => by cases hl
  | _ :: _, [], _, _, hl, _, _, _ => by cases hl
  | f :: fs, g :: gs, r, s, hl, hf, hg, h => by
    rw [dfds, dfds, List.append_assoc, List.append_assoc] at h
    obtain ⟨h1, h⟩ := dfd_inj (hf f (by simp)) (hg g (by simp)) h
    obtain ⟨h2, h⟩ := dfds_inj fs gs r s (by simpa using hl) (fun x hx => hf x (by simp [hx])) (fun x hx => hg x (by simp [hx])) h
    exact ⟨by rw [h1, h2], h⟩
def dst (x : St) : List UInt8 := uv 6 ++ (txt x.name ++ (uv x.fields.length ++ dfds x.fields))
def dns : List (List UInt8) → List Int → List UInt8
  | n :: ns, k :: ks => txt n ++ (cnt k ++ dns ns ks)
  | _, _ => []
def den (x : En) : List UInt8 := uv 7 ++ (txt x.name ++ (uv x.names.length ++ dns x.names x.nums))
theorem dns_inj : ∀ (ns ms : List (List UInt8)) (ks js : List Int) (r s : List UInt8), ns.length = ms.length → ks.length = ns.length → js.length = ms.length → (∀ k ∈ ks, i64 k) → (∀ k ∈ js, i64 k) → dns ns ks ++ r = dns ms js ++ s → ns = ms ∧ ks = js ∧ r = s
  | [], [], [], [], r, s, _, _, _, _, _, h => ⟨rfl, rfl, by simpa [dns] using h⟩
  | n :: ns, m :: ms, k :: ks, j :: js, r, s, h1, h2, h3, hk, hj, h => by
    rw [dns, dns] at h
    simp only [List.append_assoc] at h
    obtain ⟨e1, h⟩ := txt_inj h
    obtain ⟨e2, h⟩ := cnt_inj (hk k (by simp)) (hj j (by simp)) h
    obtain ⟨e3, e4, h⟩ := dns_inj ns ms ks js r s (by simpa using h1) (by simpa using h2) (by simpa using h3) (fun x hx => hk x (by simp [hx])) (fun x hx => hj x (by simp [hx])) h
    exact ⟨by rw [e1, e3], by rw [e2, e4], h⟩
  | [], _ :: _, _, _, _, _, h1, _, _, _, _, _ => by cases h1
  | _ :: _, [], _, _, _, _, h1, _, _, _, _, _ => by cases h1
  | [], [], _ :: _, _, _, _, _, h2, _, _, _, _ => by cases h2
  | [], [], [], _ :: _, _, _, _, _, h3, _, _, _ => by cases h3
  | _ :: _, _ :: _, [], _, _, _, _, h2, _, _, _, _ => by cases h2
  | _ :: _, _ :: _, _ :: _, [], _, _, _, _, h3, _, _, _ => by cases h3
/-- A definition. -/
inductive Df where
  | st : St → Df
  | en : En → Df
def dd : Df → List UInt8
  | .st x => dst x
  | .en x => den x
def inD : Df → Prop
  | .st x => ∀ f ∈ x.fields, inF f
  | .en x => x.nums.length = x.names.length ∧ ∀ k ∈ x.nums, i64 k
theorem dd_inj {a b : Df} {r s : List UInt8} (ha : inD a) (hb : inD b) (h : dd a ++ r = dd b ++ s) : a = b ∧ r = s := by
  match a, b, ha, hb, h with
  | .st ⟨n, fs⟩, .st ⟨m, gs⟩, ha, hb, h =>
    unfold dd dst at h
    simp only [List.append_assoc] at h
    obtain ⟨-, h⟩ := uv_inj _ _ _ _ h
    obtain ⟨h1, h⟩ := txt_inj h
    obtain ⟨h2, h⟩ := uv_inj _ _ _ _ h
    obtain ⟨h3, h⟩ := dfds_inj fs gs r s h2 ha hb h
    exact ⟨by rw [h1, h3], h⟩
  | .en ⟨n, ns, ks⟩, .en ⟨m, ms, js⟩, ha, hb, h =>
    unfold dd den at h
    simp only [List.append_assoc] at h
    obtain ⟨-, h⟩ := uv_inj _ _ _ _ h
    obtain ⟨h1, h⟩ := txt_inj h
    obtain ⟨h2, h⟩ := uv_inj _ _ _ _ h
    obtain ⟨h3, h4, h⟩ := dns_inj ns ms ks js r s h2 ha.1 hb.1 ha.2 hb.2 h
    exact ⟨by rw [h1, h3, h4], h⟩
  | .st x, .en y, _, _, h =>
    unfold dd dst den at h
    simp only [List.append_assoc] at h
    exact absurd (uv_inj _ _ _ _ h).1 (by decide)
  | .en x, .st y, _, _, h =>
    unfold dd dst den at h
    simp only [List.append_assoc] at h
    exact absurd (uv_inj _ _ _ _ h).1 (by decide)
theorem dd_ne (a : Df) : dd a ≠ [] := by
  intro h
  cases a with
  | st x => exact uv_ne 6 (List.append_eq_nil_iff.1 h).1
  | en x => exact uv_ne 7 (List.append_eq_nil_iff.1 h).1
/-- Definitions' descriptions, one after the other, tell the definitions. -/
def dds : List Df → List UInt8
  | [] => []
  | a :: l => dd a ++ dds l
theorem dds_inj : ∀ (l m : List Df), (∀ a ∈ l, inD a) → (∀ a ∈ m, inD a) → dds l = dds m → l = m
  | [], [], _, _, _ => rfl
  | [], b :: m, _, _, h => by
    rw [dds, dds] at h
    exact absurd (List.append_eq_nil_iff.1 h.symm).1 (dd_ne b)
  | a :: l, [], _, _, h => by
    rw [dds, dds] at h
    exact absurd (List.append_eq_nil_iff.1 h).1 (dd_ne a)
  | a :: l, b :: m, hl, hm, h => by
    rw [dds, dds] at h
    obtain ⟨h1, h⟩ := dd_inj (hl a (by simp)) (hm b (by simp)) h
    rw [h1, dds_inj l m (fun x hx => hl x (by simp [hx])) (fun x hx => hm x (by simp [hx])) h]
end Go.Proofs.YtcjaaijohapeaaaDoor
/-
  The mathematics of the checksum: the register's step is linear, and injective; bursts. No conditions beyond those that each names.
-/
namespace Go.Proofs.YtcjaaijohapeaaaDoor
/-- One step of the register. -/
def st (x : Nat) : Nat := if x % 2 = 1 then x / 2 ^^^ 2197175160 else x / 2
/-- n steps. -/
def sts : Nat → Nat → Nat
  | 0, x => x
  | n + 1, x => sts n (st x)
/-- The register behind a byte. -/
def sh (x b : Nat) : Nat := sts 8 (x ^^^ b)
/-- The register behind bytes. -/
def reg (x : Nat) (l : List UInt8) : Nat := l.foldl (fun x b => sh x b.toNat) x
def crc (l : List UInt8) : Nat := reg 4294967295 l ^^^ 4294967295
theorem xor_lt32 {a b : Nat} (ha : a < 4294967296) (hb : b < 4294967296) : a ^^^ b < 4294967296 := Nat.xor_lt_two_pow (n := 32) ha hb
theorem xor_half (a b : Nat) : (a ^^^ b) / 2 = a / 2 ^^^ b / 2 := by
  have := Nat.shiftRight_xor_distrib (a := a) (b := b) (i := 1)
  simpa [Nat.shiftRight_succ] using this
theorem xor_odd (a b : Nat) : (a ^^^ b) % 2 = (a % 2 + b % 2) % 2 := by
  have h := Nat.xor_mod_two_eq_one (a := a) (b := b)
  omega
theorem st_lt {x : Nat} (h : x < 4294967296) : st x < 4294967296 := by
  unfold st
  split
  · exact xor_lt32 (by omega) (by decide)
  · omega
theorem sts_lt (n : Nat) {x : Nat} (h : x < 4294967296) : sts n x < 4294967296 := by
  induction n generalizing x with
  | zero => exact h
  | succ n ih => exact ih (st_lt h)
theorem st_xor (a b : Nat) : st (a ^^^ b) = st a ^^^ st b := by
  unfold st
  rw [xor_odd, xor_half]
  rcases Nat.mod_two_eq_zero_or_one a with ha | ha <;> rcases Nat.mod_two_eq_zero_or_one b with hb | hb <;> rw [ha, hb]
  · rfl
  · simp [Nat.xor_assoc]
  · simp only [Nat.reduceAdd, Nat.reduceMod, if_true, Nat.zero_ne_one, if_false]
    rw [Nat.xor_assoc, Nat.xor_comm (b / 2) 2197175160, ← Nat.xor_assoc]
  · simp
    rw [Nat.xor_assoc, Nat.xor_comm (b / 2) 2197175160, ← Nat.xor_assoc 2197175160, Nat.xor_self, Nat.zero_xor]
theorem sts_xor (n a b : Nat) : sts n (a ^^^ b) = sts n a ^^^ sts n b := by
  induction n generalizing a b with
  | zero => rfl
  | succ n ih => show sts n (st (a ^^^ b)) = _; rw [st_xor, ih]; rfl
theorem sts_add (m n x : Nat) : sts (m + n) x = sts n (sts m x) := by
  induction m generalizing x with
  | zero => simp [sts]
  | succ m ih => rw [Nat.succ_add]; exact ih (st x)
theorem st_zero : st 0 = 0 := rfl
theorem sts_zero (n : Nat) : sts n 0 = 0 := by
  induction n with
  | zero => rfl
  | succ n ih => exact ih
theorem st_ne {x : Nat} (h : x < 4294967296) (h0 : x ≠ 0) : st x ≠ 0 := by
  unfold st
  split
  · intro e
    have : (x / 2 ^^^ 2197175160).testBit 31 = true := by
      rw [Nat.testBit_xor, Nat.testBit_lt_two_pow (show x / 2 < 2 ^ 31 by omega)]
      decide
    rw [e] at this
    simp at this
  · omega
theorem sts_ne (n : Nat) {x : Nat} (h : x < 4294967296) (h0 : x ≠ 0) : sts n x ≠ 0 := by
  induction n generalizing x with
  | zero => exact h0
  | succ n ih => exact ih (st_lt h) (st_ne h h0)
theorem sh_lt {x b : Nat} (h : x < 4294967296) (hb : b < 4294967296) : sh x b < 4294967296 := sts_lt 8 (xor_lt32 h hb)
theorem byte_lt (b : UInt8) : b.toNat < 4294967296 := Nat.lt_trans b.toNat_lt (by decide)
theorem reg_lt {x : Nat} (h : x < 4294967296) (l : List UInt8) : reg x l < 4294967296 := by
  induction l generalizing x with
  | nil => exact h
  | cons b l ih => exact ih (sh_lt h (byte_lt b))
theorem reg_snoc (x : Nat) (l : List UInt8) (b : UInt8) : reg x (l ++ [b]) = sh (reg x l) b.toNat := by
  unfold reg
  rw [List.foldl_append, List.foldl_cons, List.foldl_nil]
theorem reg_append (x : Nat) (l m : List UInt8) : reg x (l ++ m) = reg (reg x l) m := by simp [reg]
theorem crc_lt (l : List UInt8) : crc l < 4294967296 := xor_lt32 (reg_lt (by decide) l) (by decide)
/-- The bytewise exclusive or. -/
def xors (a b : List UInt8) : List UInt8 := List.zipWith (· ^^^ ·) a b
theorem sh_xor (x y a b : Nat) : sh (x ^^^ y) (a ^^^ b) = sh x a ^^^ sh y b := by
  unfold sh
  rw [show x ^^^ y ^^^ (a ^^^ b) = (x ^^^ a) ^^^ (y ^^^ b) by simp only [Nat.xor_assoc]; congr 1; rw [← Nat.xor_assoc y a, Nat.xor_comm y a, Nat.xor_assoc], sts_xor]
theorem reg_xors {a b : List UInt8} (h : a.length = b.length) (x y : Nat) : reg (x ^^^ y) (xors a b) = reg x a ^^^ reg y b := by
  induction a generalizing b x y with
  | nil => cases b with | nil => rfl | cons _ _ => cases h
  | cons c a ih => cases b with
    | nil => cases h
    | cons d b =>
      show reg (sh (x ^^^ y) (c ^^^ d).toNat) (xors a b) = _
      rw [UInt8.toNat_xor, sh_xor]
      exact ih (by simpa using h) _ _
theorem xors_length {a b : List UInt8} (h : a.length = b.length) : (xors a b).length = a.length := by simp [xors, h]
theorem crc_linear {a b c : List UInt8} (h : a.length = b.length) (h2 : b.length = c.length) : crc (xors (xors a b) c) = crc a ^^^ crc b ^^^ crc c := by
  unfold crc
  rw [show (4294967295 : Nat) = 4294967295 ^^^ 4294967295 ^^^ 4294967295 by decide]
  have e : ∀ x y z k : Nat, (x ^^^ k) ^^^ (y ^^^ k) ^^^ (z ^^^ k) = x ^^^ y ^^^ z ^^^ k := by
    intro x y z k
    apply Nat.eq_of_testBit_eq
    intro i
    simp only [Nat.testBit_xor]
    cases x.testBit i <;> cases y.testBit i <;> cases z.testBit i <;> cases k.testBit i <;> rfl
  rw [reg_xors (by rw [xors_length h]; omega), reg_xors h]
  simp only [show (4294967295 : Nat) ^^^ 4294967295 ^^^ 4294967295 = 4294967295 by decide]
  rw [e]
/-- Bytes as a number, the least significant one first. -/
def num : List UInt8 → Nat
  | [] => 0
  | b :: l => b.toNat + 256 * num l
theorem mul256_xor (a b : Nat) : 256 * (a ^^^ b) = 256 * a ^^^ 256 * b := by
  have := Nat.shiftLeft_xor_distrib (a := a) (b := b) (i := 8)
  simpa [Nat.shiftLeft_eq, Nat.mul_comm] using this
theorem low_xor {b : Nat} (h : b < 256) (y : Nat) : b + 256 * y = b ^^^ 256 * y := by
  have e1 : (b ^^^ 256 * y) % 256 = b := by
    have := Nat.xor_mod_two_pow (a := b) (b := 256 * y) (n := 8)
    rw [show (2 : Nat) ^ 8 = 256 from rfl] at this
    rw [this, Nat.mul_mod_right, Nat.xor_zero]
    exact Nat.mod_eq_of_lt h
  have e2 : (b ^^^ 256 * y) / 256 = y := by
    have := Nat.shiftRight_xor_distrib (a := b) (b := 256 * y) (i := 8)
    simp only [Nat.shiftRight_eq_div_pow] at this
    rw [show (2 : Nat) ^ 8 = 256 from rfl] at this
    rw [this, Nat.div_eq_of_lt h, Nat.mul_div_cancel_left _ (by decide), Nat.zero_xor]
  have := Nat.div_add_mod (b ^^^ 256 * y) 256
  omega
theorem st_two (y : Nat) : st (2 * y) = y := by unfold st; rw [if_neg (by omega)]; omega
theorem sts_two (k y : Nat) : sts k (2 ^ k * y) = y := by
  induction k generalizing y with
  | zero => simp [sts]
  | succ k ih =>
    show sts k (st (2 ^ (k + 1) * y)) = y
    rw [Nat.pow_succ, Nat.mul_comm (2 ^ k) 2, Nat.mul_assoc, st_two, ih]
theorem sts_256 (y : Nat) : sts 8 (256 * y) = y := sts_two 8 y
/-- The register behind bytes, by their number. -/
theorem reg_num (x : Nat) (l : List UInt8) : reg x l = sts (8 * l.length) (x ^^^ num l) := by
  induction l generalizing x with
  | nil => simp [reg, num, sts]
  | cons b l ih =>
    show reg (sh x b.toNat) l = _
    rw [ih, List.length_cons, show 8 * (l.length + 1) = 8 + 8 * l.length by omega, sts_add]
    congr 1
    show _ = sts 8 (x ^^^ (b.toNat + 256 * num l))
    rw [low_xor b.toNat_lt, ← Nat.xor_assoc, sts_xor, sts_256]
    rfl
theorem num_set (l : List UInt8) (j : Nat) (c b : UInt8) (h : l[j]? = some b) : num (l.set j (b ^^^ c)) = num l ^^^ 256 ^ j * c.toNat := by
  induction l generalizing j with
  | nil => cases h
  | cons d l ih =>
    cases j with
    | zero =>
      obtain rfl : d = b := by simpa using h
      show (d ^^^ c).toNat + 256 * num l = (d.toNat + 256 * num l) ^^^ 256 ^ 0 * c.toNat
      rw [low_xor (d ^^^ c).toNat_lt, low_xor d.toNat_lt, UInt8.toNat_xor, Nat.pow_zero, Nat.one_mul, Nat.xor_assoc, Nat.xor_assoc, Nat.xor_comm c.toNat]
    | succ j =>
      show d.toNat + 256 * num (l.set j (b ^^^ c)) = (d.toNat + 256 * num l) ^^^ 256 ^ (j + 1) * c.toNat
      rw [ih j (by simpa using h), low_xor d.toNat_lt, low_xor d.toNat_lt, mul256_xor, Nat.xor_assoc, Nat.pow_succ, Nat.mul_comm (256 ^ j) 256, Nat.mul_assoc]
theorem num_inj {l m : List UInt8} (h : l.length = m.length) (e : num l = num m) : l = m := by
  induction l generalizing m with
  | nil => cases m with | nil => rfl | cons _ _ => cases h
  | cons b l ih => cases m with
    | nil => cases h
    | cons c m =>
      have hb := b.toNat_lt
      have hc := c.toNat_lt
      simp only [num] at e
      have e1 : b = c := UInt8.toNat_inj.1 (by omega)
      have e2 := ih (by simpa using h) (by omega)
      rw [e1, e2]
/-- The k bytes of a number. -/
def le : Nat → Nat → List UInt8
  | 0, _ => []
  | k + 1, n => UInt8.ofNat (n % 256) :: le k (n / 256)
theorem le_length (k n : Nat) : (le k n).length = k := by
  induction k generalizing n with
  | zero => rfl
  | succ k ih => simp [le, ih]
theorem le_num (k n : Nat) (h : n < 256 ^ k) : num (le k n) = n := by
  induction k generalizing n with
  | zero => simp at h; subst h; rfl
  | succ k ih =>
    have := ih (n / 256) (by rw [Nat.pow_succ] at h; omega)
    simp only [le, num, this, UInt8.toNat_ofNat']
    omega
theorem le_inj {k a b : Nat} (ha : a < 256 ^ k) (hb : b < 256 ^ k) (e : le k a = le k b) : a = b := by rw [← le_num k a ha, ← le_num k b hb, e]
/-- A burst of at most 32 bits changes the register. -/
theorem reg_burst {l m : List UInt8} {a q : Nat} (h : m.length = l.length) (e : num m = num l ^^^ 2 ^ a * q) (ha : a ≤ 8 * l.length) (hq : q < 4294967296) (h0 : q ≠ 0) (x : Nat) : reg x m ≠ reg x l := by
  rw [reg_num, reg_num, h, e, ← Nat.xor_assoc, sts_xor (8 * l.length) (x ^^^ num l)]
  intro e1
  have e2 : sts (8 * l.length) (2 ^ a * q) = sts (8 * l.length - a) q := by
    rw [show 8 * l.length = a + (8 * l.length - a) by omega, sts_add, sts_two, Nat.add_sub_cancel_left]
  have e3 := sts_ne (8 * l.length - a) hq h0
  rw [e2] at e1
  have e4 := congrArg (sts (8 * l.length) (x ^^^ num l) ^^^ ·) e1
  simp only [Nat.xor_self] at e4
  rw [← Nat.xor_assoc, Nat.xor_self, Nat.zero_xor] at e4
  exact e3 e4
theorem crc_burst {l m : List UInt8} {a q : Nat} (h : m.length = l.length) (e : num m = num l ^^^ 2 ^ a * q) (ha : a ≤ 8 * l.length) (hq : q < 4294967296) (h0 : q ≠ 0) : crc m ≠ crc l := by
  intro e1
  have := congrArg (· ^^^ 4294967295) e1
  simp only [crc, Nat.xor_assoc, Nat.xor_self, Nat.xor_zero] at this
  exact reg_burst h e ha hq h0 _ this
/-- The hash behind a byte. -/
def mul (x b : Nat) : Nat := (x ^^^ b) * 1099511628211 % 18446744073709551616
/-- The hash behind bytes. -/
def has (x : Nat) (l : List UInt8) : Nat := l.foldl (fun x b => mul x b.toNat) x
def hash (l : List UInt8) : Nat := has 14695981039346656037 l
theorem mul_lt (x b : Nat) : mul x b < 18446744073709551616 := Nat.mod_lt _ (by decide)
theorem has_lt {x : Nat} (h : x < 18446744073709551616) (l : List UInt8) : has x l < 18446744073709551616 := by
  induction l generalizing x with
  | nil => exact h
  | cons b l ih => exact ih (mul_lt _ _)
theorem hash_lt (l : List UInt8) : hash l < 18446744073709551616 := has_lt (by decide) l
theorem has_snoc (x : Nat) (l : List UInt8) (b : UInt8) : has x (l ++ [b]) = mul (has x l) b.toNat := by
  unfold has
  rw [List.foldl_append, List.foldl_cons, List.foldl_nil]
theorem hash_snoc (l : List UInt8) (b : UInt8) : hash (l ++ [b]) = mul (hash l) b.toNat := has_snoc _ l b
theorem xor_lt64 {a b : Nat} (ha : a < 18446744073709551616) (hb : b < 18446744073709551616) : a ^^^ b < 18446744073709551616 := Nat.xor_lt_two_pow (n := 64) ha hb
theorem odd_inj {a b : Nat} (ha : a < 18446744073709551616) (hb : b < 18446744073709551616) (e : a * 1099511628211 % 18446744073709551616 = b * 1099511628211 % 18446744073709551616) : a = b := by
  have h1 : ∀ z : Nat, z < 18446744073709551616 → (z * 1099511628211 % 18446744073709551616) * 14886173955864302971 % 18446744073709551616 = z := by
    intro z hz
    rw [Nat.mod_mul_mod, Nat.mul_assoc, Nat.mul_mod, show 1099511628211 * 14886173955864302971 % 18446744073709551616 = 1 by decide, Nat.mul_one, Nat.mod_mod, Nat.mod_eq_of_lt hz]
  rw [← h1 a ha, e, h1 b hb]
theorem mul_inj {x b c : Nat} (hx : x < 18446744073709551616) (hb : b < 256) (hc : c < 256) (e : mul x b = mul x c) : b = c := by
  have h := odd_inj (xor_lt64 hx (Nat.lt_trans hb (by decide))) (xor_lt64 hx (Nat.lt_trans hc (by decide))) e
  have := congrArg (x ^^^ ·) h
  simpa [← Nat.xor_assoc] using this
end Go.Proofs.YtcjaaijohapeaaaDoor
