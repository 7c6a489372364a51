/-
  The chapter's example, as the laws check it. No conditions beyond those that each names.
-/
import Derived.Test.YtcjaaijohapeaaaDoorK14
import Derived.Test.YtcjaaijohapeaaaDoorK09
namespace Go.Proofs.YtcjaaijohapeaaaDoor
open Go.RowKit Go.Sort Go.Lib Go.Shelf
theorem Bx.newF (w : World) (t : TypeId) (x : Fg) : Bx (w.alloc (Obj.cells #[.int .i64 x.id, .int .i64 x.ix, .int .i64 x.ct, .string (bs x.dat)] t)) w.heap.size (eF x) :=
  ⟨by simp, fun j v hj => ⟨by rw [cell_lit (heap_newI w _), ← Array.getElem?_toList]; exact hj, frozen_lit (heap_newI w _)⟩⟩
set_option maxRecDepth 100000 in
set_option maxHeartbeats 4000000 in
theorem add0_any (B : Nat) (w : World) (c m : Nat) (h : A0 B w c m) (hB : B ≤ w.heap.size) :
    Calls Tryd.prog 21 #[.pointer (some ⟨c, 0, none⟩), .int .i64 1, .agg #[.int .i64 5, .int .i64 0, .int .i64 1, .string (bs [97, 98])]] w (fun e w' => e = .returned (.tuple #[.string (bs [97, 98]), .bool true, .int .i64 0]) ∧ Below B w w') := by
  have HLK : Hid (∀ W, A0 B W c m → (Instr.lookup 107 (.map (some m)) (.agg #[.int .i64 1, .int .i64 5]) false).run Tryd.prog W = .ok (.slice none 0 0) W) := Lib.hid fun W hW => hW.mp.look (t := (1, 5)) ⟨⟨by decide, by decide⟩, ⟨by decide, by decide⟩⟩
  have cV := fun W => isValid_any ⟨5, 0, 1, [97, 98]⟩ W (by decide)
  rw [show fvB ⟨5, 0, 1, [97, 98]⟩ = true by decide] at cV
  unfold Fg.val at cV
  have hsz : (bs [97, 98]).size = 2 := rfl
  have h1 := h.next (ab1 w (Obj.cells #[.int .i64 5, .int .i64 0, .int .i64 1, .string (bs [97, 98])] 32))
  have H1 := Lib.hid h1
  have k0 := h.b.c 1 rfl
  have hlt := h.b.lt
  have kmn : ∀ W, (binOp .eql 107 (.map (some m)) (.map none)).run Tryd.prog W = .ok (.bool false) W := fun W => by kernel_rfl
  have F0 := Bx.newF w 32 ⟨5, 0, 1, [97, 98]⟩
  go_enter Tryd.func21, Tryd.ntmps21
  go_wp2_with (first
    | (go_at_call 39; refine (isIn_any _ _ _ _).mono ?_; rw [show inB 1 0 7 = true by decide]; rintro e w9 ⟨rfl, rfl⟩)
    | (go_at_call 37; refine (cV _).mono ?_; rintro e w1 ⟨rfl, hb1⟩; have H2 := Lib.hid (H1.out.next hb1); have F1 := F0.next hb1; have q0 := F1.c 0 rfl))
  have H3 := Lib.hid (H2.out.next (ab1 w1 (Obj.cells #[.int .i64 1, .int .i64 5] 116)))
  have F3 := Lib.hid (F1.next (ab1 w1 (Obj.cells #[.int .i64 1, .int .i64 5] 116)))
  have K3 := Bx.new2 w1 116 (.int .i64 1) (.int .i64 5)
  have HB3 := Lib.hid (((show Below w.heap.size w _ from Below.next (ab1 w _) hb1).trans ((ab1 w1 (Obj.cells #[.int .i64 1, .int .i64 5] 116)).mono (Nat.le_trans (ab1 w _).size hb1.size))).mono hB)
  clear H1 H2 h1 h F0 F1 q0 cV hb1 k0 hlt
  generalize w1.alloc (Obj.cells #[.int .i64 1, .int .i64 5] 116) = w3 at *
  generalize w1.heap.size = kb at *
  generalize w.heap.size = fb at *
  have k0 := H3.out.b.c 1 rfl
  have p0 := K3.c 0 rfl
  have p1 := K3.c 1 rfl
  have hL := HLK.out _ (H3.out.next (show Below _ _ (World.drew w3) from below_drewN (Below.refl _ _) 1))
  go_region
  have hd := show Below w3.heap.size w3 (World.drew w3) from below_drewN (Below.refl _ _) 1
  have H4 := Lib.hid (H3.out.next hd)
  have F4 := Lib.hid (F3.out.next hd)
  have K4 := Lib.hid (K3.next hd)
  have hs3 : B ≤ w3.heap.size := by have := H3.out.lo.1; have := H3.out.b.lt; omega
  have HB4 := Lib.hid (HB3.out.trans (hd.mono hs3))
  clear hL k0 p0 p1 K3 H3 F3 HB3 hd hs3
  generalize World.drew w3 = w4 at *
  have q1 := F4.out.c 1 rfl
  go_wp2_with (go_at_call 56; refine (findNil_any _ _).mono ?_; rintro e w5 ⟨rfl, hb5⟩)
  have H5 := Lib.hid (H4.out.next hb5)
  have F5 := Lib.hid (F4.out.next hb5)
  have K5 := Lib.hid (K4.out.next hb5)
  have HB5 := Lib.hid (HB4.out.trans (hb5.mono (by have := H4.out.lo.1; have := H4.out.b.lt; omega)))
  clear H4 F4 K4 HB4 hb5 q1
  have q2 := F5.out.c 2 rfl
  go_region
  have hd := show Below w5.heap.size w5 (World.drew w5) from below_drewN (Below.refl _ _) 1
  have H6 := Lib.hid (H5.out.next hd)
  have F6 := Lib.hid (F5.out.next hd)
  have K6 := Lib.hid (K5.out.next hd)
  have HB6 := Lib.hid (HB5.out.trans (hd.mono (by have := H5.out.lo.1; have := H5.out.b.lt; omega)))
  clear H5 F5 K5 HB5 hd q2
  generalize World.drew w5 = w6 at *
  go_wp2_with fail
  have q0 := F6.out.c 0 rfl
  have k4 := H6.out.b.c 4 rfl
  go_quiet ((go_at_call 57; exact Calls.quiet_of_same ((Tryd.slices_Contains_int_empty _ _ _ _).mono fun _ _ h => ⟨h.1, h.2⟩)))
  have hd := show Below w6.heap.size w6 (w6.drewN nq) from below_drewN (Below.refl _ _) nq
  have H7 := Lib.hid (H6.out.next hd)
  have F7 := Lib.hid (F6.out.next hd)
  have HB7 := Lib.hid (HB6.out.trans (hd.mono (by have := H6.out.lo.1; have := H6.out.b.lt; omega)))
  clear H6 F6 K6 HB6 hd q0 k4
  generalize w6.drewN nq = w7 at *
  have s0 := F7.out.c 0 rfl
  have s1 := F7.out.c 1 rfl
  have s2 := F7.out.c 2 rfl
  have s3 := F7.out.c 3 rfl
  have hI := insNil_any ⟨5, 0, 1, [97, 98]⟩ w7.heap.size 1 (w7.alloc (Obj.cells #[.int .i64 5, .int .i64 0, .int .i64 1, .string (bs [97, 98])] 32)) (Bx.newF w7 32 ⟨5, 0, 1, [97, 98]⟩)
  have HL7 : Hid (B ≤ w7.heap.size) := Lib.hid (by have := H7.out.lo.1; have := H7.out.b.lt; omega)
  have HN : Hid (∀ g, (w7.alloc (Obj.cells #[.int .i64 5, .int .i64 0, .int .i64 1, .string (bs [97, 98])] 32)).heap.size ≤ g → ¬ (g = c ∨ g = m)) := Lib.hid (fun g hg e => by
    have h1 := H7.out.b.lt
    have h2 := H7.out.mp.lt
    have h3 := (ab1 w7 (Obj.cells #[.int .i64 5, .int .i64 0, .int .i64 1, .string (bs [97, 98])] 32)).size
    omega)
  have HBX : Hid (B ≤ (w7.alloc (Obj.cells #[.int .i64 5, .int .i64 0, .int .i64 1, .string (bs [97, 98])] 32)).heap.size) := Lib.hid (Nat.le_trans HL7.out (ab1 w7 _).size)
  have HC : Hid (∀ W, A0 B W c m → B ≤ W.heap.size) := Lib.hid (fun W h => by have := h.lo.1; have := h.b.lt; omega)
  go_wp2_with (first
    | (go_at_call 58; refine hI.mono ?_; clear hI; rintro e w8 ⟨g8, c8, rfl, ho8, hb8⟩; have hb8 := Below.next (ab1 w7 _) hb8; have H8 := Lib.hid (H7.out.next hb8); have F8 := F7.out.next hb8; clear s0 s1 s2 s3; have r0 := F8.c 0 rfl; have r2 := F8.c 2 rfl; have HB8 := Lib.hid (HB7.out.trans (hb8.mono HL7.out)); have HO8 := Lib.hid ho8)
    | (go_at_call 60; refine (complete0_any B w8 c m H8.out (HC.out _ H8.out)).mono ?_; rintro e w9 ⟨rfl, hb9⟩; have HO9 := Lib.hid (show OwF B w9 (.slice (some ⟨g8, 0, none⟩) 1 c8) [⟨5, 0, 1, [97, 98]⟩] from own_mono (own_blk HO8.out (fun g e => hb9.blk g (HO8.out.lt g e).2 (HN.out g (HO8.out.lt g e).1))) HBX.out))
    | (go_at_call 61; refine (join_any B _ [⟨5, 0, 1, [97, 98]⟩] _ HO9.out (by decide) (by decide)).mono ?_; rintro e w10 ⟨rfl, hb10⟩))
  go_ret3
  exact ⟨rfl, (HB8.out.trans (hb9.below (HC.out _ H8.out) (fun i e => e.elim (fun e => by rw [e]; exact H8.out.lo.1) (fun e => by rw [e]; exact H8.out.lo.2)))).trans (hb10.mono (Nat.le_trans (HC.out _ H8.out) hb9.size))⟩
def awP : Pc := ⟨4, 0, 1, 2, 3, 0, 1, 4, 0, [], []⟩
theorem awP_enc : encP awP = ([4, 0, 1, 2, 3, 0, 1, 4, 0], 0) := by
  unfold encP
  rw [if_pos (by decide)]
  unfold enc nb
  simp [awP, nrs, nrB, nrS, nrF, lid, Pc.num, uv_small]
set_option maxRecDepth 100000 in
set_option maxHeartbeats 4000000 in
theorem awake_any (w : World) : Calls Tryd.prog 7 #[] w (Ib (.bool true) w) := by
  have cE := encode_any awP (.slice none 0 0) w ⟨none, 0, rfl, .inl rfl⟩ (by decide) (by decide)
  rw [awP_enc] at cE
  unfold Pc.val Pc.cells awP at cE
  simp only [List.toArray] at cE
  have hs1 : ((bs [4, 0, 1, 2, 3, 0, 1, 4, 0]).toList == [4, 0, 1, 2, 3, 0, 1, 4, 0]) = true := by rw [toList_bs]; rfl
  go_enter Tryd.func7, Tryd.ntmps7
  go_wp2_with (first
    | (go_at_call 9; refine cE.mono ?_; rintro e w1 ⟨rfl, hb1⟩)
    | (go_at_call 18; refine (newA_any _).mono ?_; rintro e w2 ⟨c, m, rfl, hb2, h2⟩)
    | (go_at_call 21; refine (add0_any _ _ _ _ h2 hb2.size).mono ?_; rintro e w3 ⟨rfl, hb3⟩))
  go_ret
  exact ⟨by rw [toList_bs]; rfl, (Below.next hb1 hb2).trans (hb3.mono hb1.size)⟩
end Go.Proofs.YtcjaaijohapeaaaDoor
/-
  Reading a packet: its parts as data. No conditions beyond those that each names.
-/
namespace Go.Proofs.YtcjaaijohapeaaaDoor
open Go.RowKit Go.Sort Go.Lib Go.Shelf
/-- The numbers of a kind, read one after another. -/
def rdN (l : List Nr) (q : Pc × Rs) : Pc × Rs := l.foldl (fun q x => (q.1.setN x.off (q.2.sval 1099511627776 : Nat), q.2.small 1099511627776)) q
/-- Some numbers of a list. -/
def rdM : Nat → List Int × Rs → List Int × Rs
  | 0, q => q
  | n + 1, q => ((rdM n q).1 ++ [(((rdM n q).2.sval 1099511627776 : Nat) : Int)], (rdM n q).2.small 1099511627776)
theorem rdN_snoc (l : List Nr) (x : Nr) (q : Pc × Rs) : rdN (l ++ [x]) q = ((rdN l q).1.setN x.off ((rdN l q).2.sval 1099511627776 : Nat), (rdN l q).2.small 1099511627776) := by unfold rdN; rw [List.foldl_append]; rfl
theorem rdN_kind (l : List Nr) : ∀ q : Pc × Rs, (rdN l q).1.kind = q.1.kind ∧ (rdN l q).1.mis = q.1.mis ∧ (rdN l q).1.pay = q.1.pay := by
  induction l with
  | nil => intro q; exact ⟨rfl, rfl, rfl⟩
  | cons x l ih =>
    intro q
    obtain ⟨h1, h2, h3⟩ := ih (q.1.setN x.off (q.2.sval 1099511627776 : Nat), q.2.small 1099511627776)
    obtain ⟨k1, k2, k3⟩ := setN_kind q.1 x.off (q.2.sval 1099511627776 : Nat)
    exact ⟨h1.trans k1, h2.trans k2, h3.trans k3⟩
theorem rdN_len (l : List Nr) : ∀ q : Pc × Rs, (rdN l q).2.l.length ≤ q.2.l.length := by
  induction l with
  | nil => intro q; exact Nat.le_refl _
  | cons x l ih => intro q; exact Nat.le_trans (ih _) (Rs.small_len _ _)
theorem rdM_len (n : Nat) (q : List Int × Rs) : (rdM n q).2.l.length ≤ q.2.l.length ∧ (rdM n q).1.length = q.1.length + n := by
  induction n with
  | zero => exact ⟨Nat.le_refl _, rfl⟩
  | succ n ih => exact ⟨Nat.le_trans (Rs.small_len _ _) ih.1, by show ((rdM n q).1 ++ [(((rdM n q).2.sval 1099511627776 : Nat) : Int)]).length = _; rw [List.length_append, ih.2]; rfl⟩
def P0 (k : Int) : Pc := ⟨k, 0, 0, 0, 0, 0, 0, 0, 0, [], []⟩
/-- The kind, and the reader behind it. -/
def k0 (b : List UInt8) : Nat := (Rs.mk b 0).sval 5
def kr1 (b : List UInt8) : Rs := (Rs.mk b 0).small 5
/-- Behind the numbers. -/
def kN (b : List UInt8) : Pc × Rs := rdN (nrs (k0 b : Nat)) (P0 (k0 b : Nat), kr1 b)
/-- Behind the list. -/
def kM (b : List UInt8) : List Int × Rs := if k0 b = 3 then rdM ((kN b).2.sval 32) ([], (kN b).2.small 32) else ([], (kN b).2)
/-- Behind the payload. -/
def kP (b : List UInt8) : List UInt8 × Rs := if k0 b = 1 ∨ k0 b = 5 then ((kM b).2.tval 2000, (kM b).2.text 2000) else ([], (kM b).2)
/-- What is read: the packet, and the first error. -/
def rdP (b : List UInt8) : Pc := { (kN b).1 with mis := (kM b).1, pay := (kP b).1 }
def rdE (b : List UInt8) : Nat := if (kr1 b).e ≠ 0 then (kr1 b).e else if k0 b = 0 then 4 else eN (kP b).2.l (kP b).2.e
/-- What Decode returns. -/
def dec (b : List UInt8) : Pc × Int := if rdE b = 0 then (if chk (rdP b) = 0 then (rdP b, 0) else (P0 0, chk (rdP b))) else (P0 0, (rdE b : Nat))
theorem small_le {r : Rs} {M : Int} (h : 0 ≤ M) : (r.sval M : Int) ≤ M := by
  unfold Rs.sval nS
  split
  · split
    · rename_i h1
      unfold eS at h1
      split at h1
      · rename_i h2; exact absurd h1 h2
      · split at h1
        · cases h1
        · omega
    · exact h
  · exact h
theorem Bx.offD {w w' : World} {b g : Nat} {vs : List Value} (h : Bx w b vs) (hg : w.grownBy w' (some g)) (hne : b ≠ g) : Bx w' b vs := h.blk hg.size (hg.block b h.lt (fun e => hne (Option.some.inj e)))
theorem Bx.othD {w : World} {b : Nat} {vs : List Value} (h : Bx w b vs) (p : Addr) (u : Value) (hp : p.block ≠ b) : Bx (w.setCell p u) b vs := h.blk (by simp [World.setCell]) (Below.heap_setCell _ _ _ _ (fun e => hp e.symm))
theorem gb_new {w w1 : World} {q : Option Nat} (h : w.grownBy w1 q) {p : Addr} (hp : w.heap.size ≤ p.block) (u : Value) : w.grownBy (w1.setCell p u) q :=
  ⟨h.os, h.tape, h.output, by simpa [World.setCell] using h.size, fun k hk hne => (Below.heap_setCell _ _ _ _ (fun e => by rw [e] at hk; omega)).trans (h.block k hk hne)⟩
/-- In the midst of reading: the reader, the packet's box, the result's. -/
structure RI (p : Pc) (mv : Value) (r : Rs) (g pb zb : Nat) (w wr : World) : Prop where
  gb : w.grownBy wr (some g)
  rd : Rdr wr g r.l r.e
  bx : Bx wr pb (p.cells mv)
  z : Bx wr zb ((P0 0).cells (.slice none 0 0))
  n1 : g < w.heap.size
  n2 : w.heap.size ≤ zb
  n3 : w.heap.size ≤ pb
  n4 : pb ≠ zb
theorem RI.next {p : Pc} {mv : Value} {r : Rs} {g pb zb : Nat} {w wr w2 : World} (h : RI p mv r g pb zb w wr) (hb : Below wr.heap.size wr w2) : RI p mv r g pb zb w w2 :=
  ⟨h.gb.trans (gbq_of hb _), h.rd.next hb, h.bx.next hb, h.z.next hb, h.n1, h.n2, h.n3, h.n4⟩
theorem RI.read {p : Pc} {mv : Value} {r r' : Rs} {g pb zb : Nat} {w wr w2 : World} (h : RI p mv r g pb zb w wr) (hg : wr.grownBy w2 (some g)) (hr : Rdr w2 g r'.l r'.e) : RI p mv r' g pb zb w w2 :=
  ⟨h.gb.trans hg, hr, h.bx.offD hg (by have := h.n1; have := h.n3; omega), h.z.offD hg (by have := h.n1; have := h.n2; omega), h.n1, h.n2, h.n3, h.n4⟩
theorem RI.put {p p' : Pc} {mv mv' : Value} {r : Rs} {g pb zb : Nat} {w wr : World} (h : RI p mv r g pb zb w wr) (j : Nat) (u : Value) (hp : (p.cells mv).set j u = p'.cells mv') : RI p' mv' r g pb zb w (wr.setCell ⟨pb, j, none⟩ u) := by
  have h1 := h.n1
  have h3 := h.n3
  refine ⟨gb_new h.gb h.n3 _, ?_, by rw [← hp]; exact h.bx.put1 j u, h.z.othD _ _ h.n4, h.n1, h.n2, h.n3, h.n4⟩
  obtain ⟨lt, c0, c1, f0, f1⟩ := h.rd
  exact ⟨by simpa [World.setCell] using lt, (World.cell?_setCell_other _ _ _ _ (by intro h; injection h with h; omega)).trans c0, (World.cell?_setCell_other _ _ _ _ (by intro h; injection h with h; omega)).trans c1, by simp [f0], by simp [f1]⟩
end Go.Proofs.YtcjaaijohapeaaaDoor
/-
  Reading a packet: memory of one's own that holds integers. No conditions beyond those that each names.
-/
namespace Go.Proofs.YtcjaaijohapeaaaDoor
open Go.RowKit Go.Sort Go.Lib Go.Shelf
theorem own_gbD {w w' : World} {B g : Nat} {e : TypeId} {z n : Nat} {v : Value} {xs : List Value} (h : w.ownsRow B e z v n xs) (hg : w.grownBy w' (some g)) (hb : g < B) : w'.ownsRow B e z v n xs := own_blk h fun q hq => hg.block q (h.lt q hq).2 (fun e => by injection e with e; have := (h.lt q hq).1; omega)
theorem own_setD {w : World} {B : Nat} {e : TypeId} {z n : Nat} {v : Value} {xs : List Value} (h : w.ownsRow B e z v n xs) (p : Addr) (u : Value) (hb : p.block < B) : (w.setCell p u).ownsRow B e z v n xs := own_blk h fun q hq => Below.heap_setCell _ _ _ _ (fun e => by have := (h.lt q hq).1; omega)
def icellsD (l : List Int) : List Value := l.map fun n => .int .i64 n
def OwM (B : Nat) (w : World) (v : Value) (l : List Int) : Prop := w.ownsRow B 3 1 v l.length (icellsD l)
theorem OwM.nil (B : Nat) (w : World) : OwM B w (.slice none 0 0) [] := World.ownsRow_nil _ _ _ _
theorem infoM : (Tryd.prog.info? 3).map (fun i => (i.zero, i.size, i.bytes)) = some (some (.int .i64 0), 1, 8) := by kernel_rfl
theorem OwM.mis {B : Nat} {w : World} {v : Value} {l : List Int} (h : OwM B w v l) : Mis w v l := by
  obtain ⟨A, c, rfl, -⟩ := own_nil_or h
  refine ⟨A, c, rfl, ?_⟩
  by_cases h0 : l.length = 0
  · exact .inl (List.eq_nil_of_length_eq_zero h0)
  · obtain ⟨g, rfl⟩ := own_some h h0
    refine .inr ⟨g, 0, rfl, (World.ownsRow.lt h g rfl).2, fun i hi => ?_⟩
    have k := h.cells rfl i _ (by unfold icellsD; rw [List.getElem?_map, List.getElem?_eq_getElem hi]; rfl)
    rw [Addr.add_lit, Nat.zero_add] at k
    rw [Nat.zero_add]
    exact k
theorem RI.same {p p' : Pc} {mv : Value} {r : Rs} {g pb zb : Nat} {w wr : World} (h : RI p mv r g pb zb w wr) (e : p.cells mv = p'.cells mv) : RI p' mv r g pb zb w wr :=
  ⟨h.gb, h.rd, e ▸ h.bx, h.z, h.n1, h.n2, h.n3, h.n4⟩
theorem RI.own {p : Pc} {mv : Value} {r : Rs} {g pb zb : Nat} {w wr w2 : World} {q : Option Nat} (h : RI p mv r g pb zb w wr) (hg : wr.grownBy w2 q) (hq : ∀ b, q = some b → pb < b ∧ zb < b) : RI p mv r g pb zb w w2 := by
  have h1 := h.n1
  have h2 := h.n2
  have h3 := h.n3
  have hz : ∀ {b vs}, Bx wr b vs → (∀ x, q = some x → b < x) → Bx w2 b vs := fun {b vs} hb hx => hb.blk hg.size (hg.block _ hb.lt (fun e => by have := hx _ e.symm; omega))
  refine ⟨⟨hg.os.trans h.gb.os, hg.tape.trans h.gb.tape, hg.output.trans h.gb.output, Nat.le_trans h.gb.size hg.size, fun k hk hne => (hg.block k (Nat.lt_of_lt_of_le hk h.gb.size) (fun e => by have := (hq _ e.symm).1; omega)).trans (h.gb.block k hk hne)⟩, ?_, hz h.bx (fun x e => (hq x e).1), hz h.z (fun x e => (hq x e).2), h1, h2, h3, h.n4⟩
  have hb := hg.block g h.rd.lt (fun e => by have := (hq _ e.symm).1; omega)
  exact ⟨Nat.lt_of_lt_of_le h.rd.lt hg.size, (World.cell?_of_block (a := ⟨g, 0, none⟩) hb).trans h.rd.c0, (World.cell?_of_block (a := ⟨g, 1, none⟩) hb).trans h.rd.c1, (World.frozen?_of_block (a := ⟨g, 0, none⟩) hb).trans h.rd.f0, (World.frozen?_of_block (a := ⟨g, 1, none⟩) hb).trans h.rd.f1⟩
/-- A number appended to the packet's list, as one step of a statement that draws its order. -/
theorem step_pushI {w w1 wx : World} {ops : Array Oper} {E : Prop} {o : Oper} {a : Act} {K : Act → World → Prop} {Q : Exit → Act → World → Prop} (hgd : o.guard = none) (sv xv : Operand)
    (ho : o.op = .call { callee := .builtin .append, args := #[sv, xv], argTypes := #[23, 23] }) (p : Pc) (mv : Value) (r : Rs) (g pb zb : Nat) (l : List Int) (x : Int) (b d : Nat) (hs : a.eval sv = mv) (hx : a.eval xv = .slice (some ⟨b, 0, none⟩) 1 d)
    (hR : Hid (RI p mv r g pb zb w w1)) (hO : Hid (OwM (pb + 1) w1 mv l)) (hwx : wx.heap = (w1.alloc (Obj.cells #[.int .i64 x] 3)).heap ∧ wx.os = w1.os ∧ wx.tape = w1.tape ∧ wx.output = w1.output) (hg : b = w1.heap.size) (hm : l.length ≤ 1000) (hzp : zb < pb) (k : Nat) (hk : Hid ((l ++ [x]).length = k))
    (h : ∀ A c w2, Hid (RI p mv r g pb zb w w2) → Hid (OwM (pb + 1) w2 (.slice A k c) (l ++ [x])) → w2.cell? ⟨pb, 9, none⟩ = some mv → w2.frozen? ⟨pb, 9, none⟩ = false → K (a.put o.dst (.slice A k c)) w2) : if Region.wanted o (yielded ops a.tmps) = true then Oper.wp Tryd.prog o a wx K Q else E := by
  have hw : Region.wanted o (yielded ops a.tmps) = true := by simp [Region.wanted, hgd]
  rw [if_pos hw]
  obtain ⟨e1, e2, e3, e4⟩ := hwx
  have hb : Below w1.heap.size w1 wx := ⟨e2, e3, e4, by rw [e1]; simp, fun i hi => by rw [e1]; exact heap_alloc_old w1 _ hi⟩
  have hgx : wx.heap[b]? = some (.cells #[.int .i64 x] 3 (0, 0)) := by rw [e1, hg]; exact heap_newI w1 _
  have hbs : pb + 1 ≤ wx.heap.size := Nat.lt_of_lt_of_le hR.out.bx.lt hb.size
  have hO1 := own_next hO.out hb
  obtain ⟨i, hi, hz, hs5, hby⟩ := info_parts infoM
  obtain ⟨v', w2, hr, h1, h2, -, -⟩ := run_append_own_at (P := Tryd.prog) wx (pb + 1) 23 o.type 3 i _ 1 8 Tryd.underlying23 hi hz hs5 hby rfl (by omega) mv l.length (icellsD l) hO1 ⟨b, 0, none⟩ 1 d [.int .i64 x] rfl
    (by intro j u hj
        rw [Addr.add_lit, Nat.zero_add, cell_lit hgx, ← Array.getElem?_toList]; exact hj) (by simp [Value.oneCell']) (by simp only [maxLen]; omega) (by omega) hbs
  have h3 : OwM (pb + 1) w2 v' (l ++ [x]) := by unfold OwM icellsD; rw [List.map_append, List.length_append]; exact h1
  unfold Oper.wp execOp
  simp only [ho, resolve, invoke, builtin, Sem.run_bind, Sem.run_pure, Result.andThen_ok, List.map_toArray, List.map_cons, List.map_nil, hs, hx, hr]
  have hI : RI p mv r g pb zb w w2 := (hR.out.next hb).own h2 fun q hq => by have := (hO1.lt q hq).1; omega
  rw [← hk.out] at h
  obtain ⟨A, c, rfl, -⟩ := own_nil_or h3
  exact h A c w2 (Lib.hid hI) (Lib.hid h3) (hI.bx.c 9 rfl) (hI.bx.f 9 rfl)
/-- What is read, by the kind. -/
theorem rd_A {b : List UInt8} {P : Pc} {r : Rs} (h : kN b = (P, r)) (h3 : k0 b ≠ 3) (hp : ¬ (k0 b = 1 ∨ k0 b = 5)) : kP b = ([], r) ∧ rdP b = { P with mis := [], pay := [] } := by
  have hM : kM b = ([], r) := by unfold kM; rw [if_neg h3, h]
  have hP : kP b = ([], r) := by unfold kP; rw [if_neg hp, hM]
  exact ⟨hP, by unfold rdP; rw [h, hM, hP]⟩
theorem rd_B {b : List UInt8} {P : Pc} {r : Rs} (h : kN b = (P, r)) (h3 : k0 b ≠ 3) (hp : k0 b = 1 ∨ k0 b = 5) : kP b = (r.tval 2000, r.text 2000) ∧ rdP b = { P with mis := [], pay := r.tval 2000 } := by
  have hM : kM b = ([], r) := by unfold kM; rw [if_neg h3, h]
  have hP : kP b = (r.tval 2000, r.text 2000) := by unfold kP; rw [if_pos hp, hM]
  exact ⟨hP, by unfold rdP; rw [h, hM, hP]⟩
theorem rd_C {b : List UInt8} {P : Pc} {r : Rs} (h : kN b = (P, r)) (h3 : k0 b = 3) : kP b = ([], (rdM (r.sval 32) ([], r.small 32)).2) ∧ rdP b = { P with mis := (rdM (r.sval 32) ([], r.small 32)).1, pay := [] } := by
  have hM : kM b = rdM (r.sval 32) ([], r.small 32) := by unfold kM; rw [if_pos h3, h]
  have hP : kP b = ([], (rdM (r.sval 32) ([], r.small 32)).2) := by unfold kP; rw [if_neg (by omega), hM]
  exact ⟨hP, by unfold rdP; rw [h, hM, hP]⟩
end Go.Proofs.YtcjaaijohapeaaaDoor
/-
  Reading a packet. No conditions beyond those that each names.
-/
namespace Go.Proofs.YtcjaaijohapeaaaDoor
open Go.RowKit Go.Sort Go.Lib Go.Shelf
/-- A packet, stored. -/
def st11 (w : World) (b : Nat) (p : Pc) (mv : Value) : World := (((((((((((w.setCell ⟨b, 0, none⟩ (.int .i64 p.kind)).setCell ⟨b, 1, none⟩ (.int .i64 p.fr)).setCell ⟨b, 2, none⟩ (.int .i64 p.to_)).setCell ⟨b, 3, none⟩ (.int .i64 p.wr)).setCell ⟨b, 4, none⟩ (.int .i64 p.rd)).setCell ⟨b, 5, none⟩ (.int .i64 p.sq)).setCell ⟨b, 6, none⟩ (.int .i64 p.fi)).setCell ⟨b, 7, none⟩ (.int .i64 p.la)).setCell ⟨b, 8, none⟩ (.int .i64 p.at_)).setCell ⟨b, 9, none⟩ (mv)).setCell ⟨b, 10, none⟩ (.string (bs p.pay)))
theorem st11_bx {w : World} {b : Nat} {q : Pc} {mq : Value} (h : Bx w b (q.cells mq)) (p : Pc) (mv : Value) : Bx (st11 w b p mv) b (p.cells mv) := (((((((((((h.put1 0 _).put1 1 _).put1 2 _).put1 3 _).put1 4 _).put1 5 _).put1 6 _).put1 7 _).put1 8 _).put1 9 _).put1 10 _)
theorem st11_gb {w0 w : World} {b : Nat} {q : Option Nat} (h : w0.grownBy w q) (hb : w0.heap.size ≤ b) (p : Pc) (mv : Value) : w0.grownBy (st11 w b p mv) q := (gb_new (gb_new (gb_new (gb_new (gb_new (gb_new (gb_new (gb_new (gb_new (gb_new (gb_new h (p := ⟨b, 0, none⟩) hb _) (p := ⟨b, 1, none⟩) hb _) (p := ⟨b, 2, none⟩) hb _) (p := ⟨b, 3, none⟩) hb _) (p := ⟨b, 4, none⟩) hb _) (p := ⟨b, 5, none⟩) hb _) (p := ⟨b, 6, none⟩) hb _) (p := ⟨b, 7, none⟩) hb _) (p := ⟨b, 8, none⟩) hb _) (p := ⟨b, 9, none⟩) hb _) (p := ⟨b, 10, none⟩) hb _)
/-- What read returns. -/
def RdQ (b : List UInt8) (g : Nat) (w : World) (e : Ending) (w' : World) : Prop := w.grownBy w' (some g) ∧ ((rdE b = 0 ∧ ∃ mv, e = .returned (.tuple #[(rdP b).val mv, .int .i64 0]) ∧ OwM w.heap.size w' mv (rdP b).mis) ∨ (rdE b ≠ 0 ∧ ∃ p A n c, e = .returned (.tuple #[Pc.val p (.slice A n c), .int .i64 (rdE b : Nat)])))
theorem own_st11 {w : World} {B b : Nat} {e : TypeId} {z n : Nat} {v : Value} {xs : List Value} (h : w.ownsRow B e z v n xs) (p : Pc) (mv : Value) (hb : b < B) : (st11 w b p mv).ownsRow B e z v n xs := (own_setD (own_setD (own_setD (own_setD (own_setD (own_setD (own_setD (own_setD (own_setD (own_setD (own_setD h ⟨b, 0, none⟩ _ hb) ⟨b, 1, none⟩ _ hb) ⟨b, 2, none⟩ _ hb) ⟨b, 3, none⟩ _ hb) ⟨b, 4, none⟩ _ hb) ⟨b, 5, none⟩ _ hb) ⟨b, 6, none⟩ _ hb) ⟨b, 7, none⟩ _ hb) ⟨b, 8, none⟩ _ hb) ⟨b, 9, none⟩ _ hb) ⟨b, 10, none⟩ _ hb)
theorem bp_genD {P : Program} {f : Func} {Q : Ending → World → Prop} {ex : Exit} {a : Act} {R : World → Prop} {W : World} (hW : R W) (h : ∀ W, R W → bodyPost P f Q ex a W) : bodyPost P f Q ex a W := h W hW
set_option maxRecDepth 100000 in
set_option maxHeartbeats 8000000 in
theorem read_any (b : List UInt8) (g : Nat) (w : World) (hb : b.length ≤ 1000000) (hr : Rdr w g b 0) :
    Calls Tryd.prog 23 #[.pointer (some ⟨g, 0, none⟩)] w (RdQ b g w) := by
  have Z0 : Bx (w.alloc (Obj.cells #[.int .i64 0, .int .i64 0, .int .i64 0, .int .i64 0, .int .i64 0, .int .i64 0, .int .i64 0, .int .i64 0, .int .i64 0, .slice none 0 0, .string ⟨#[]⟩] 25)) w.heap.size ((P0 0).cells (.slice none 0 0)) := Bx.newP w 25 (P0 0) (.slice none 0 0)
  have hz0 := ab1 w (Obj.cells #[.int .i64 0, .int .i64 0, .int .i64 0, .int .i64 0, .int .i64 0, .int .i64 0, .int .i64 0, .int .i64 0, .int .i64 0, .slice none 0 0, .string ⟨#[]⟩] 25)
  have hgl := hr.lt
  have R0 := hr.next hz0
  have C1 := rsSmall_any g ⟨b, 0⟩ 5 _ (by show b.length ≤ _; omega) (by decide) (by decide) R0
  have HE : Hid ((kr1 b).e ≠ 0 → rdE b = (kr1 b).e) := Lib.hid fun h => by unfold rdE; rw [if_pos h]
  have HE2 : Hid ((kr1 b).e = 0 → k0 b = 0 → rdE b = 4) := Lib.hid fun h h2 => by unfold rdE; rw [if_neg (by omega), if_pos h2]
  have HE3 : Hid ((kr1 b).e = 0 → k0 b ≠ 0 → rdE b = eN (kP b).2.l (kP b).2.e) := Lib.hid fun h h2 => by unfold rdE; rw [if_neg (by omega), if_neg h2]
  have HC1 := Lib.hid (show Calls _ _ _ _ (Ir (.int .i64 (k0 b : Nat)) g (kr1 b).l (kr1 b).e _) from C1)
  have HZ := Lib.hid Z0
  have hk5 : (k0 b : Int) ≤ 5 := small_le (by decide)
  have HZG : Hid (∀ w2, (w.alloc (Obj.cells #[.int .i64 0, .int .i64 0, .int .i64 0, .int .i64 0, .int .i64 0, .int .i64 0, .int .i64 0, .int .i64 0, .int .i64 0, .slice none 0 0, .string ⟨#[]⟩] 25)).grownBy w2 (some g) → Bx w2 w.heap.size ((P0 0).cells (.slice none 0 0)) ∧ w.grownBy w2 (some g)) := Lib.hid fun w2 h => ⟨HZ.out.offD h (by omega), (gbq_of hz0 (some g)).trans h⟩
  clear C1 Z0
  by_cases he : (kr1 b).e = 0
  · have hne : (((kr1 b).e : Int) != 0) = false := by rw [he]; rfl
    by_cases hk : k0 b = 0
    · have hk0 : (((k0 b : Nat) : Int) == 0) = true := by rw [hk]; rfl
      have HX := Lib.hid (HE2.out he hk)
      have HE0 := Lib.hid he
      have HK0 := Lib.hid hk
      clear he hk
      generalize (kr1 b).e = e1 at *
      generalize (kr1 b).l = l1 at *
      generalize k0 b = kk at *
      go_enter Tryd.func23, Tryd.ntmps23
      go_wp2_with (first
        | (go_at_call 34; refine HC1.out.mono ?_; rintro e w2 ⟨rfl, hg2, R2⟩; obtain ⟨Z2, G2⟩ := HZG.out w2 hg2; have p0 := Z2.c 0 rfl; have f0 := Z2.f 0 rfl; have p1 := Z2.c 1 rfl; have f1 := Z2.f 1 rfl; have p2 := Z2.c 2 rfl; have f2 := Z2.f 2 rfl; have p3 := Z2.c 3 rfl; have f3 := Z2.f 3 rfl; have p4 := Z2.c 4 rfl; have f4 := Z2.f 4 rfl; have p5 := Z2.c 5 rfl; have f5 := Z2.f 5 rfl; have p6 := Z2.c 6 rfl; have f6 := Z2.f 6 rfl; have p7 := Z2.c 7 rfl; have f7 := Z2.f 7 rfl; have p8 := Z2.c 8 rfl; have f8 := Z2.f 8 rfl; have p9 := Z2.c 9 rfl; have f9 := Z2.f 9 rfl; have p10 := Z2.c 10 rfl; have f10 := Z2.f 10 rfl; have pl := Z2.lt)
        | (go_at_call 62; refine (err_any g l1 e1 _ (R2.next (ab1 _ _))).mono ?_; rintro e w3 ⟨rfl, rfl⟩))
      refine bp_genD (R := fun W => Bx W w.heap.size ((P0 0).cells (.slice none 0 0)) ∧ w.grownBy W (some g)) (show _ ∧ _ from ⟨(st11_bx Z2 (P0 0) (.slice none 0 0)).next (ab1 _ _), (st11_gb G2 (Nat.le_refl _) (P0 0) (.slice none 0 0)).trans (gbq_of (ab1 _ _) _)⟩) ?_
      rintro wz ⟨QB, QG⟩
      have c0 := QB.c 0 rfl
      have c1 := QB.c 1 rfl
      have c2 := QB.c 2 rfl
      have c3 := QB.c 3 rfl
      have c4 := QB.c 4 rfl
      have c5 := QB.c 5 rfl
      have c6 := QB.c 6 rfl
      have c7 := QB.c 7 rfl
      have c8 := QB.c 8 rfl
      have c9 := QB.c 9 rfl
      have c10 := QB.c 10 rfl
      refine bodyPost_ret (v := .tuple #[.agg #[.int .i64 (P0 0).kind, .int .i64 (P0 0).fr, .int .i64 (P0 0).to_, .int .i64 (P0 0).wr, .int .i64 (P0 0).rd, .int .i64 (P0 0).sq, .int .i64 (P0 0).fi, .int .i64 (P0 0).la, .int .i64 (P0 0).at_, (.slice none 0 0), .string (bs (P0 0).pay)], .int .i64 (4 : Nat)]) (by simp [results, Tryd.results23, go_sem, c0, c1, c2, c3, c4, c5, c6, c7, c8, c9, c10]) rfl ⟨QG, .inr ⟨by rw [HX.out]; decide, P0 0, none, 0, 0, by rw [HX.out]; rfl⟩⟩
    · have hk0 : (((k0 b : Nat) : Int) == 0) = false := by simpa using hk
      have HX := Lib.hid (HE3.out he hk)
      have HE0 := Lib.hid he
      have HK0 := Lib.hid hk
      have HLB : Hid ((kr1 b).l.length ≤ 1000000) := Lib.hid (Nat.le_trans (Rs.small_len _ _) hb)
      have HKN : Hid (kN b = rdN (nrs (k0 b : Nat)) (P0 (k0 b : Nat), kr1 b)) := Lib.hid rfl
      obtain ⟨L, hL⟩ : ∃ L, nrs ((k0 b : Nat) : Int) = L := ⟨_, rfl⟩
      obtain ⟨m, hm⟩ : ∃ m, L.length = m := ⟨_, rfl⟩
      have hle := nrs_len ((k0 b : Nat) : Int)
      rw [hL] at HKN
      rw [hL, hm] at hle
      have HL := Lib.hid hL
      have HM := Lib.hid hm
      clear he hk hL hm
      obtain ⟨R1, hR1⟩ : ∃ r, kr1 b = r := ⟨_, rfl⟩
      rw [hR1] at HC1 HLB HKN hne
      obtain ⟨kk, hkk⟩ : ∃ k, k0 b = k := ⟨_, rfl⟩
      rw [hkk] at HC1 hk0 HKN hk5 HL
      have HNU : Hid (∀ pb W, W.cell? ⟨pb, 0, none⟩ = some (.int .i64 (kk : Int)) → Calls Tryd.prog 28 #[.pointer (some ⟨pb, 0, none⟩)] W (fun e W' => Below W.heap.size W W' ∧ ∃ A c, e = .returned (.slice A m c) ∧ OwN pb W.heap.size W' (.slice A m c) L)) := Lib.hid fun pb W h => by
        have h9 := numbers_any pb (kk : Int) W h
        unfold NsP at h9
        rw [HL.out, HM.out] at h9
        exact h9
      go_enter Tryd.func23, Tryd.ntmps23
      go_wp2_with (first
        | (go_at_call 28; refine (HNU.out _ _ (RS.bx.c 0 rfl)).mono ?_; rintro e w4 ⟨hb4, A1, c1, rfl, ho4⟩; have RS4 := Lib.hid (RS.next hb4))
        | (go_at_call 34; refine HC1.out.mono ?_; rintro e w2 ⟨rfl, hg2, R2⟩; obtain ⟨Z2, G2⟩ := HZG.out w2 hg2)
        | (go_at_call 62; refine (err_any g R1.l R1.e _ (R2.next (ab1 _ _))).mono ?_; rintro e w3 ⟨rfl, rfl⟩; have RS : RI (P0 (kk : Int)) (.slice none 0 0) R1 g w2.heap.size w.heap.size w _ := ⟨G2.trans (gbq_of (ab1 _ _) _), R2.next (ab1 _ _), Bx.newP w2 25 (P0 (kk : Int)) (.slice none 0 0), Z2.next (ab1 _ _), hgl, Nat.le_refl _, G2.size, (Nat.ne_of_gt Z2.lt)⟩))
      have ho5 : OwN w2.heap.size (w2.heap.size + 1) w4 (.slice A1 m c1) L := own_mono ho4 (show _ ≤ (w2.heap.push _).size from Nat.le_of_eq (Array.size_push _).symm)
      have HO5 := Lib.hid ho5
      have HPB := Lib.hid (show g < w2.heap.size by have := G2.size; omega)
      have HZP : Hid (w.heap.size < w2.heap.size) := Lib.hid Z2.lt
      clear ho4 hb4 RS ho5 G2 Z2 R2 hg2 HZG HZ R0 HE HE2 hz0 HC1
      generalize w2.heap.size = pb at *
      obtain ⟨q0, hq0⟩ : ∃ q, (P0 (kk : Int), R1) = q := ⟨_, rfl⟩
      have RS5 : Hid (RI q0.1 (.slice none 0 0) q0.2 g pb w.heap.size w w4) := Lib.hid (by rw [← hq0]; exact RS4.out)
      have HKN2 : Hid (kN b = rdN L q0) := Lib.hid (by rw [← hq0]; exact HKN.out)
      have HLB2 : Hid (q0.2.l.length ≤ 1000000) := Lib.hid (by rw [← hq0]; exact HLB.out)
      have HQ0 := Lib.hid hq0
      clear HKN HLB RS4 hq0
      go_loopg [23] m (fun kx s23 wr => ∃ i : Nat, s23 = .int .i64 (i : Int) ∧ i ≤ m ∧ m - i ≤ kx ∧ Hid (RI (rdN (L.take i) q0).1 (.slice none 0 0) (rdN (L.take i) q0).2 g pb w.heap.size w wr ∧ OwN pb (pb + 1) wr (.slice A1 m c1) L))
      case atStart => exact ⟨0, rfl, Nat.zero_le _, Nat.le_refl _, Lib.hid ⟨RS5.out, HO5.out⟩⟩
      case round =>
        obtain ⟨i, rfl, hin, hkx, HI⟩ := hrel
        by_cases hi : i < m
        · have di : decide (i < m) = true := decide_eq_true hi
          have hil : i < L.length := by rw [HM.out]; exact hi
          obtain ⟨ga, rfl, hgB, hgl2⟩ := OwN.pos HI.out.2 (by omega) HM.out
          have cx := fun j v hv => OwN.cell HI.out.2 HM.out i hil j v hv
          have x0 := cx 0 _ rfl
          have x1 := cx 1 _ rfl
          have x2 := cx 2 _ rfl
          have hof := nrs_off ((kk : Nat) : Int) _ (by rw [HL.out]; exact List.getElem_mem hil)
          have HS : Hid (L.take (i + 1) = L.take i ++ [L[i]'hil]) := Lib.hid (by rw [List.take_succ_eq_append_getElem hil])
          obtain ⟨⟨of, lo, up⟩, hx⟩ : ∃ x, L[i]'hil = x := ⟨_, rfl⟩
          rw [hx] at x0 x1 x2 hof HS
          simp only [Nat.add_zero] at x0 x1 x2
          have hi1 : i + 1 ≤ m := by omega
          have HX : Hid (rdN (L.take (i + 1)) q0 = ((rdN (L.take i) q0).1.setN of ((rdN (L.take i) q0).2.sval 1099511627776 : Nat), (rdN (L.take i) q0).2.small 1099511627776)) := Lib.hid (by rw [HS.out, rdN_snoc])
          have hlq : (rdN (L.take i) q0).2.l.length ≤ 1000000 := Nat.le_trans (rdN_len _ _) HLB2.out
          generalize rdN (L.take i) q0 = qi at *
          have E4 := Lib.hid (HI.out.1.next (ab1 wr (Obj.cells #[.pointer (some ⟨pb, of, none⟩), .int .i64 lo, .int .i64 up] 82)))
          have O4 := Lib.hid (own_next HI.out.2 (ab1 wr (Obj.cells #[.pointer (some ⟨pb, of, none⟩), .int .i64 lo, .int .i64 up] 82)))
          have T4 := Bx.new3 wr 82 (.pointer (some ⟨pb, of, none⟩)) (.int .i64 lo) (.int .i64 up)
          have hof2 : ∀ W (h : RI qi.1 (.slice none 0 0) (qi.2.small 1099511627776) g pb w.heap.size w W), W.cell? ⟨pb, of, none⟩ = some (.int .i64 (qi.1.num of)) ∧ W.frozen? ⟨pb, of, none⟩ = false := fun W h => ⟨h.bx.c of (cells_num _ _ hof), h.bx.f of (cells_num _ _ hof)⟩
          have hne : wr.heap.size ≠ g := by have := HI.out.1.gb.size; have := HI.out.1.n1; omega
          have hS6 := HPB.out
          clear cx hx hil
          go_wp2_with (fail)
          generalize wr.alloc (Obj.cells #[.pointer (some ⟨pb, of, none⟩), .int .i64 lo, .int .i64 up] 82) = W at *
          generalize wr.heap.size = tb at *
          have Ed : Hid (RI qi.1 (.slice none 0 0) qi.2 g pb w.heap.size w W.drew) := Lib.hid (E4.out.next (Below.refl _ _).drew)
          have Od : Hid (OwN pb (pb + 1) W.drew (.slice (some ⟨ga, 0, none⟩) m c1) L) := Lib.hid (own_next O4.out (Below.refl _ _).drew)
          have Td : Bx W.drew tb [.pointer (some ⟨pb, of, none⟩), .int .i64 lo, .int .i64 up] := T4.next (Below.refl _ _).drew
          have cS := rsSmall_any g qi.2 1099511627776 W.drew (by omega) (by decide) (by decide) Ed.out.rd
          have t0 := Td.c 0 rfl
          clear E4 O4 T4 x0 x1 x2
          go_region_with (go_at_call 34; refine cS.mono ?_; rintro e w5 ⟨rfl, hg5, R5⟩; have t1 := (Td.offD hg5 hne).c 0 rfl; have E5 := Lib.hid (Ed.out.read (r' := qi.2.small 1099511627776) hg5 R5); obtain ⟨y0, z0⟩ := hof2 _ E5.out; have O5 := Lib.hid (own_gbD Od.out hg5 (by omega)))
          all_goals
            go_wp2_with (fail)
            go_roundg (m - (i + 1))
            case measure => omega
            case rel => exact ⟨i + 1, rfl, hi1, Nat.le_refl _, Lib.hid (by rw [HX.out]; exact ⟨E5.out.put of _ (cells_set _ _ hof _), own_setD O5.out _ _ (Nat.lt_succ_self pb)⟩)⟩
        · obtain rfl : i = m := by omega
          have di : decide (i < i) = false := decide_eq_false hi
          obtain ⟨hI, -⟩ := HI.out
          rw [List.take_of_length_le (Nat.le_of_eq HM.out), ← HKN2.out] at hI
          have hkd : (kN b).1.kind = (kk : Int) ∧ (kN b).1.mis = [] ∧ (kN b).1.pay = [] := by rw [HKN2.out, ← HQ0.out]; exact rdN_kind L _
          have hlr : (kN b).2.l.length ≤ 1000000 := by rw [HKN2.out]; exact Nat.le_trans (rdN_len _ _) HLB2.out
          obtain ⟨⟨P, r⟩, hqn⟩ : ∃ q, kN b = q := ⟨_, rfl⟩
          rw [hqn] at hI hkd hlr
          obtain ⟨hkd, hPm, hPp⟩ := hkd
          replace hkd : P.kind = (kk : Int) := hkd
          replace hPm : P.mis = [] := hPm
          replace hPp : P.pay = [] := hPp
          have hlr2 : r.l.length ≤ 1000000 := hlr
          have hzp : w.heap.size < pb := by have := hI.n2; have := hI.n4; have := hI.z.lt; exact HZP.out
          have hown0 : Hid (∀ W, OwM (pb + 1) W (.slice none 0 0) []) := Lib.hid fun W => OwM.nil _ W
          have y0 : wr.cell? ⟨pb, 0, none⟩ = some (.int .i64 (kk : Int)) := by rw [← hkd]; exact hI.bx.c 0 rfl
          have HI2 := Lib.hid hI
          have HPm := Lib.hid hPm
          have HPp := Lib.hid hPp
          have HKD := Lib.hid hkd
          have HQN := Lib.hid hqn
          have HKK := Lib.hid hkk
          clear hI HI hi hkx hlr hkd hPm hPp HKN2 HQ0 HLB2 HM HL HNU RS5 HO5 hle hqn hkk
          cases h3 : (kk : Int) == 3
          · have h3n : k0 b ≠ 3 := by rw [HKK.out]; intro e; rw [e] at h3; simp at h3
            cases hP : ((kk : Int) == 1 || (kk : Int) == 5)
            · have hpn : ¬ (k0 b = 1 ∨ k0 b = 5) := by
                rw [HKK.out]; intro e
                rcases e with e | e <;> (rw [e] at hP; simp at hP)
              obtain ⟨hq1, hq2⟩ := rd_A HQN.out h3n hpn
              obtain ⟨PP, hPP⟩ : ∃ p, ({ P with mis := [], pay := [] } : Pc) = p := ⟨_, rfl⟩
              have HF : Hid (rdE b = eN r.l r.e ∧ rdP b = PP) := Lib.hid ⟨by rw [HX.out, hq1], hq2.trans hPP⟩
              have X : Hid (RI PP (.slice none 0 0) r g pb w.heap.size w wr) := Lib.hid (HI2.out.same (by rw [← hPP]; unfold Pc.cells; rw [HPp.out]))
              have O : Hid (OwM (pb + 1) wr (.slice none 0 0) PP.mis) := Lib.hid (by rw [← hPP]; exact hown0.out wr)
              clear hq1 hq2 h3n hpn HI2 hPP
              have R0 := X.out.rd
              go_wp2_with (first | (go_at_call 29; refine (usesMis_any _ _).mono ?_; rw [h3]; rintro e w8 ⟨rfl, rfl⟩) | (go_at_call 30; refine (usesPay_any _ _).mono ?_; rw [hP]; rintro e w8 ⟨rfl, rfl⟩))
              clear y0
              have RIe : Hid (RI PP (.slice none 0 0) r g pb w.heap.size w wr.drew) := Lib.hid (X.out.next (Below.refl _ _).drew)
              have Oe : Hid (OwM (pb + 1) wr.drew (.slice none 0 0) PP.mis) := Lib.hid (own_next O.out (Below.refl _ _).drew)
              have cE : Calls _ _ _ _ (Is (.int .i64 (eN r.l r.e : Nat)) _) := end_any g r.l r.e wr.drew RIe.out.rd
              rw [← HF.out.1] at cE
              have pl := X.out.bx.lt
              have ql := X.out.z.lt
              have p0 := X.out.bx.c 0 rfl
              have p1 := X.out.bx.c 1 rfl
              have p2 := X.out.bx.c 2 rfl
              have p3 := X.out.bx.c 3 rfl
              have p4 := X.out.bx.c 4 rfl
              have p5 := X.out.bx.c 5 rfl
              have p6 := X.out.bx.c 6 rfl
              have p7 := X.out.bx.c 7 rfl
              have p8 := X.out.bx.c 8 rfl
              have p9 := X.out.bx.c 9 rfl
              have p10 := X.out.bx.c 10 rfl
              have q0 := X.out.z.c 0 rfl
              have f0 := X.out.z.f 0 rfl
              have q1 := X.out.z.c 1 rfl
              have f1 := X.out.z.f 1 rfl
              have q2 := X.out.z.c 2 rfl
              have f2 := X.out.z.f 2 rfl
              have q3 := X.out.z.c 3 rfl
              have f3 := X.out.z.f 3 rfl
              have q4 := X.out.z.c 4 rfl
              have f4 := X.out.z.f 4 rfl
              have q5 := X.out.z.c 5 rfl
              have f5 := X.out.z.f 5 rfl
              have q6 := X.out.z.c 6 rfl
              have f6 := X.out.z.f 6 rfl
              have q7 := X.out.z.c 7 rfl
              have f7 := X.out.z.f 7 rfl
              have q8 := X.out.z.c 8 rfl
              have f8 := X.out.z.f 8 rfl
              have q9 := X.out.z.c 9 rfl
              have f9 := X.out.z.f 9 rfl
              have q10 := X.out.z.c 10 rfl
              have f10 := X.out.z.f 10 rfl
              have HW : Hid (Bx (st11 wr w.heap.size PP (.slice none 0 0)).drew w.heap.size (PP.cells (.slice none 0 0)) ∧ w.grownBy (st11 wr w.heap.size PP (.slice none 0 0)).drew (some g) ∧ OwM w.heap.size (st11 wr w.heap.size PP (.slice none 0 0)).drew (.slice none 0 0) PP.mis) := Lib.hid ⟨(st11_bx X.out.z PP (.slice none 0 0)).next (Below.refl _ _).drew, (st11_gb X.out.gb X.out.n2 PP (.slice none 0 0)).trans (gbq_of (Below.refl _ _).drew _), own_next (own_mono (own_st11 O.out PP (.slice none 0 0) (Nat.lt_succ_of_lt HZP.out)) (Nat.le_of_lt (Nat.lt_succ_of_lt HZP.out))) (Below.refl _ _).drew⟩
              have HQ : Hid (∀ wz, w.grownBy wz (some g) → OwM w.heap.size wz (.slice none 0 0) PP.mis → RdQ b g w (.returned (.tuple #[Pc.val PP (.slice none 0 0), .int .i64 (rdE b : Nat)])) wz) := Lib.hid fun wz h1 h2 => by
                by_cases h : rdE b = 0
                · exact ⟨h1, .inl ⟨h, _, by rw [h, HF.out.2]; rfl, by rw [HF.out.2]; exact h2⟩⟩
                · exact ⟨h1, .inr ⟨h, _, _, _, _, rfl⟩⟩
              clear X O
              go_region_with (go_at_call 36; refine cE.mono ?_; rintro e w9 ⟨rfl, rfl⟩)
              all_goals
                go_wp2_with (fail)
                refine bp_genD (R := fun W => Bx W w.heap.size (PP.cells (.slice none 0 0)) ∧ w.grownBy W (some g) ∧ OwM w.heap.size W (.slice none 0 0) PP.mis) HW.out ?_
                rintro wz ⟨QB, QG, QM⟩
                have c0 := QB.c 0 rfl
                have c1 := QB.c 1 rfl
                have c2 := QB.c 2 rfl
                have c3 := QB.c 3 rfl
                have c4 := QB.c 4 rfl
                have c5 := QB.c 5 rfl
                have c6 := QB.c 6 rfl
                have c7 := QB.c 7 rfl
                have c8 := QB.c 8 rfl
                have c9 := QB.c 9 rfl
                have c10 := QB.c 10 rfl
                exact bodyPost_ret (v := .tuple #[.agg #[.int .i64 PP.kind, .int .i64 PP.fr, .int .i64 PP.to_, .int .i64 PP.wr, .int .i64 PP.rd, .int .i64 PP.sq, .int .i64 PP.fi, .int .i64 PP.la, .int .i64 PP.at_, .slice none 0 0, .string (bs PP.pay)], .int .i64 (rdE b : Nat)]) (by simp [results, Tryd.results23, go_sem, c0, c1, c2, c3, c4, c5, c6, c7, c8, c9, c10]) rfl (HQ.out _ QG QM)
            · have hpn : k0 b = 1 ∨ k0 b = 5 := by
                rw [HKK.out]; simp at hP; omega
              obtain ⟨hq1, hq2⟩ := rd_B HQN.out h3n hpn
              obtain ⟨PP, hPP⟩ : ∃ p, ({ P with mis := [], pay := r.tval 2000 } : Pc) = p := ⟨_, rfl⟩
              have HF : Hid (rdE b = eN (r.text 2000).l (r.text 2000).e ∧ rdP b = PP) := Lib.hid ⟨by rw [HX.out, hq1], hq2.trans hPP⟩
              have HPUT : Hid (P.cells (.slice none 0 0) |>.set 10 (.string (bs (r.tval 2000))) |> (· = PP.cells (.slice none 0 0))) := Lib.hid (by rw [← hPP]; rfl)
              have HPM : Hid (PP.mis = []) := Lib.hid (by rw [← hPP])
              clear hq1 hq2 h3n hpn hPP
              have cT := rsText_any g r 2000 wr (by omega) (by decide) (by decide) HI2.out.rd
              go_wp2_with (first | (go_at_call 29; refine (usesMis_any _ _).mono ?_; rw [h3]; rintro e w8 ⟨rfl, rfl⟩) | (go_at_call 30; refine (usesPay_any _ _).mono ?_; rw [hP]; rintro e w8 ⟨rfl, rfl⟩) | (go_at_call 35; refine cT.mono ?_; clear cT y0; rintro e w6 ⟨rfl, hg6, R6⟩; have E6 := Lib.hid (HI2.out.read (r' := r.text 2000) hg6 R6); have y10 := E6.out.bx.c 10 rfl; have z10 := E6.out.bx.f 10 rfl; have l10 := E6.out.bx.lt))
              have X : Hid (RI PP (.slice none 0 0) (r.text 2000) g pb w.heap.size w (w6.setCell ⟨pb, 10, none⟩ (.string (bs (r.tval 2000))))) := Lib.hid (E6.out.put 10 _ HPUT.out)
              clear y10 z10 l10
              generalize w6.setCell ⟨pb, 10, none⟩ (.string (bs (r.tval 2000))) = W at *
              have O : Hid (OwM (pb + 1) W (.slice none 0 0) PP.mis) := Lib.hid (by rw [HPM.out]; exact hown0.out W)
              clear E6 hg6 R6
              generalize r.text 2000 = r2 at *
              have RIe : Hid (RI PP (.slice none 0 0) r2 g pb w.heap.size w W.drew) := Lib.hid (X.out.next (Below.refl _ _).drew)
              have Oe : Hid (OwM (pb + 1) W.drew (.slice none 0 0) PP.mis) := Lib.hid (own_next O.out (Below.refl _ _).drew)
              have cE : Calls _ _ _ _ (Is (.int .i64 (eN r2.l r2.e : Nat)) _) := end_any g r2.l r2.e W.drew RIe.out.rd
              rw [← HF.out.1] at cE
              have pl := X.out.bx.lt
              have ql := X.out.z.lt
              have p0 := X.out.bx.c 0 rfl
              have p1 := X.out.bx.c 1 rfl
              have p2 := X.out.bx.c 2 rfl
              have p3 := X.out.bx.c 3 rfl
              have p4 := X.out.bx.c 4 rfl
              have p5 := X.out.bx.c 5 rfl
              have p6 := X.out.bx.c 6 rfl
              have p7 := X.out.bx.c 7 rfl
              have p8 := X.out.bx.c 8 rfl
              have p9 := X.out.bx.c 9 rfl
              have p10 := X.out.bx.c 10 rfl
              have q0 := X.out.z.c 0 rfl
              have f0 := X.out.z.f 0 rfl
              have q1 := X.out.z.c 1 rfl
              have f1 := X.out.z.f 1 rfl
              have q2 := X.out.z.c 2 rfl
              have f2 := X.out.z.f 2 rfl
              have q3 := X.out.z.c 3 rfl
              have f3 := X.out.z.f 3 rfl
              have q4 := X.out.z.c 4 rfl
              have f4 := X.out.z.f 4 rfl
              have q5 := X.out.z.c 5 rfl
              have f5 := X.out.z.f 5 rfl
              have q6 := X.out.z.c 6 rfl
              have f6 := X.out.z.f 6 rfl
              have q7 := X.out.z.c 7 rfl
              have f7 := X.out.z.f 7 rfl
              have q8 := X.out.z.c 8 rfl
              have f8 := X.out.z.f 8 rfl
              have q9 := X.out.z.c 9 rfl
              have f9 := X.out.z.f 9 rfl
              have q10 := X.out.z.c 10 rfl
              have f10 := X.out.z.f 10 rfl
              have HW : Hid (Bx (st11 W w.heap.size PP (.slice none 0 0)).drew w.heap.size (PP.cells (.slice none 0 0)) ∧ w.grownBy (st11 W w.heap.size PP (.slice none 0 0)).drew (some g) ∧ OwM w.heap.size (st11 W w.heap.size PP (.slice none 0 0)).drew (.slice none 0 0) PP.mis) := Lib.hid ⟨(st11_bx X.out.z PP (.slice none 0 0)).next (Below.refl _ _).drew, (st11_gb X.out.gb X.out.n2 PP (.slice none 0 0)).trans (gbq_of (Below.refl _ _).drew _), own_next (own_mono (own_st11 O.out PP (.slice none 0 0) (Nat.lt_succ_of_lt HZP.out)) (Nat.le_of_lt (Nat.lt_succ_of_lt HZP.out))) (Below.refl _ _).drew⟩
              have HQ : Hid (∀ wz, w.grownBy wz (some g) → OwM w.heap.size wz (.slice none 0 0) PP.mis → RdQ b g w (.returned (.tuple #[Pc.val PP (.slice none 0 0), .int .i64 (rdE b : Nat)])) wz) := Lib.hid fun wz h1 h2 => by
                by_cases h : rdE b = 0
                · exact ⟨h1, .inl ⟨h, _, by rw [h, HF.out.2]; rfl, by rw [HF.out.2]; exact h2⟩⟩
                · exact ⟨h1, .inr ⟨h, _, _, _, _, rfl⟩⟩
              clear X O
              go_region_with (go_at_call 36; refine cE.mono ?_; rintro e w9 ⟨rfl, rfl⟩)
              all_goals
                go_wp2_with (fail)
                refine bp_genD (R := fun W => Bx W w.heap.size (PP.cells (.slice none 0 0)) ∧ w.grownBy W (some g) ∧ OwM w.heap.size W (.slice none 0 0) PP.mis) HW.out ?_
                rintro wz ⟨QB, QG, QM⟩
                have c0 := QB.c 0 rfl
                have c1 := QB.c 1 rfl
                have c2 := QB.c 2 rfl
                have c3 := QB.c 3 rfl
                have c4 := QB.c 4 rfl
                have c5 := QB.c 5 rfl
                have c6 := QB.c 6 rfl
                have c7 := QB.c 7 rfl
                have c8 := QB.c 8 rfl
                have c9 := QB.c 9 rfl
                have c10 := QB.c 10 rfl
                exact bodyPost_ret (v := .tuple #[.agg #[.int .i64 PP.kind, .int .i64 PP.fr, .int .i64 PP.to_, .int .i64 PP.wr, .int .i64 PP.rd, .int .i64 PP.sq, .int .i64 PP.fi, .int .i64 PP.la, .int .i64 PP.at_, .slice none 0 0, .string (bs PP.pay)], .int .i64 (rdE b : Nat)]) (by simp [results, Tryd.results23, go_sem, c0, c1, c2, c3, c4, c5, c6, c7, c8, c9, c10]) rfl (HQ.out _ QG QM)
          · have hk3 : kk = 3 := by simp at h3; omega
            have hP : ((kk : Int) == 1 || (kk : Int) == 5) = false := by rw [hk3]; rfl
            have h3k : k0 b = 3 := by rw [HKK.out, hk3]
            obtain ⟨hq1, hq2⟩ := rd_C HQN.out h3k
            have HQ1 := Lib.hid hq1
            have HQ2 := Lib.hid hq2
            have hn32 : (r.sval 32 : Int) ≤ 32 := small_le (by decide)
            have hls : (r.small 32).l.length ≤ 1000000 := Nat.le_trans (Rs.small_len _ _) hlr2
            have cS32 := rsSmall_any g r 32 wr (by omega) (by decide) (by decide) HI2.out.rd
            clear hq1 hq2 hk3 h3k
            obtain ⟨n, hn⟩ : ∃ n, r.sval 32 = n := ⟨_, rfl⟩
            rw [hn] at hn32 cS32 HQ1 HQ2
            obtain ⟨r1, hr1⟩ : ∃ q, r.small 32 = q := ⟨_, rfl⟩
            rw [hr1] at cS32 HQ1 HQ2 hls
            clear hn
            go_wp2_with (first | (go_at_call 29; refine (usesMis_any _ _).mono ?_; rw [h3]; rintro e w8 ⟨rfl, rfl⟩) | (go_at_call 34; refine cS32.mono ?_; clear cS32 y0; rintro e w6 ⟨rfl, hg6, R6⟩; have E6 := Lib.hid (HI2.out.read (r' := r1) hg6 (by rw [← hr1] at R6 ⊢; exact R6))))
            have O6 : Hid (OwM (pb + 1) w6 (.slice none 0 0) []) := Lib.hid (hown0.out w6)
            obtain ⟨q1, hq1⟩ : ∃ q : List Int × Rs, ([], r1) = q := ⟨_, rfl⟩
            rw [hq1] at HQ1 HQ2
            have HL1 : Hid (q1.2.l.length ≤ 1000000 ∧ q1.1.length = 0) := Lib.hid (by rw [← hq1]; exact ⟨hls, rfl⟩)
            have E7 : Hid (RI P (.slice none 0 0) q1.2 g pb w.heap.size w w6 ∧ OwM (pb + 1) w6 (.slice none 0 0) q1.1) := Lib.hid ⟨by rw [← hq1]; exact E6.out, by rw [← hq1]; exact O6.out⟩
            clear hq1 E6 O6 R6 hg6 hr1 hls HI2
            go_loopg [38] n (fun kx s38 wr => ∃ i A c, s38 = .int .i64 ((i : Nat) : Int) ∧ i ≤ n ∧ n - i ≤ kx ∧ Hid (RI P (.slice A i c) (rdM i q1).2 g pb w.heap.size w wr ∧ OwM (pb + 1) wr (.slice A i c) (rdM i q1).1))
            case atStart => exact ⟨0, none, 0, rfl, Nat.zero_le _, Nat.le_refl _, E7⟩
            case round =>
              obtain ⟨j, A, c, rfl, hjn, hjx, HJ⟩ := hrel
              have hle := rdM_len j q1
              rw [HL1.out.2, Nat.zero_add] at hle
              by_cases hj : j < n
              · have dj : decide (j < n) = true := decide_eq_true hj
                have djI : decide ((j : Int) < (n : Int)) = true := decide_eq_true (by omega)
                have hj1 : j + 1 ≤ n := by omega
                have HX2 : Hid (rdM (j + 1) q1 = ((rdM j q1).1 ++ [(((rdM j q1).2.sval 1099511627776 : Nat) : Int)], (rdM j q1).2.small 1099511627776)) := Lib.hid rfl
                have hlj : (rdM j q1).2.l.length ≤ 1000000 := Nat.le_trans hle.1 HL1.out.1
                have HKJ : Hid (((rdM j q1).1 ++ [(((rdM j q1).2.sval 1099511627776 : Nat) : Int)]).length = j + 1) := Lib.hid (by rw [List.length_append, hle.2]; rfl)
                have hlm : (rdM j q1).1.length ≤ 1000 := by rw [hle.2]; omega
                clear hle
                generalize rdM j q1 = qj at *
                have Ed : Hid (RI P (.slice A j c) qj.2 g pb w.heap.size w wr.drew) := Lib.hid (HJ.out.1.next (Below.refl _ _).drew)
                have Od : Hid (OwM (pb + 1) wr.drew (.slice A j c) qj.1) := Lib.hid (own_next HJ.out.2 (Below.refl _ _).drew)
                have cS := rsSmall_any g qj.2 1099511627776 wr.drew (by omega) (by decide) (by decide) Ed.out.rd
                have x9 := HJ.out.1.bx.c 9 rfl
                go_wp2_with (fail)
                go_region_law (first
                  | (refine step_pushI rfl (.tmp 41) (.tmp 44) rfl P _ _ g pb w.heap.size qj.1 _ _ _ rfl rfl E5 O5 ⟨rfl, rfl, rfl, rfl⟩ rfl hlm hzp (j + 1) HKJ ?_; clear cS; intro A2 c2 w7 E8 O8 y9 v9)
                  | (go_wp2_with (go_at_call 34; refine cS.mono ?_; rintro e w5 ⟨rfl, hg5, R5⟩; have E5 := Lib.hid (Ed.out.read (r' := qj.2.small 1099511627776) hg5 R5); have O5 := Lib.hid (own_gbD Od.out hg5 (Nat.lt_succ_of_lt HPB.out)); have x99 := E5.out.bx.c 9 rfl; have l5 := E5.out.bx.lt)))
                all_goals
                  go_wp2_with (fail)
                  go_roundg (n - (j + 1))
                  case measure => omega
                  case rel => exact ⟨j + 1, A2, c2, rfl, hj1, Nat.le_refl _, Lib.hid (by rw [HX2.out]; exact ⟨E8.out.put 9 _ rfl, own_setD O8.out _ _ (Nat.lt_succ_self pb)⟩)⟩
              · obtain rfl : j = n := by omega
                have dj : decide (j < j) = false := decide_eq_false hj
                have djI : decide ((j : Int) < (j : Int)) = false := decide_eq_false (by omega)
                obtain ⟨qm, hqm⟩ : ∃ q, rdM j q1 = q := ⟨_, rfl⟩
                rw [hqm] at HJ HQ1 HQ2
                obtain ⟨PP, hPP⟩ : ∃ p, ({ P with mis := qm.1, pay := [] } : Pc) = p := ⟨_, rfl⟩
                have HF : Hid (rdE b = eN qm.2.l qm.2.e ∧ rdP b = PP) := Lib.hid ⟨by rw [HX.out, HQ1.out], HQ2.out.trans hPP⟩
                have X : Hid (RI PP (.slice A j c) qm.2 g pb w.heap.size w wr) := Lib.hid (HJ.out.1.same (by rw [← hPP]; unfold Pc.cells; rw [HPp.out]))
                have O : Hid (OwM (pb + 1) wr (.slice A j c) PP.mis) := Lib.hid (by rw [← hPP]; exact HJ.out.2)
                have y0 : wr.cell? ⟨pb, 0, none⟩ = some (.int .i64 (kk : Int)) := by rw [← HKD.out]; exact HJ.out.1.bx.c 0 rfl
                clear HJ HQ1 HQ2 hPP hqm hle hj hjn hjx E7 HL1
                go_wp2_with (go_at_call 30; refine (usesPay_any _ _).mono ?_; rw [hP]; clear y0; rintro e w8 ⟨rfl, rfl⟩)
                generalize qm.2 = r2 at *
                have RIe : Hid (RI PP (.slice A j c) r2 g pb w.heap.size w wr.drew) := Lib.hid (X.out.next (Below.refl _ _).drew)
                have Oe : Hid (OwM (pb + 1) wr.drew (.slice A j c) PP.mis) := Lib.hid (own_next O.out (Below.refl _ _).drew)
                have cE : Calls _ _ _ _ (Is (.int .i64 (eN r2.l r2.e : Nat)) _) := end_any g r2.l r2.e wr.drew RIe.out.rd
                rw [← HF.out.1] at cE
                have pl := X.out.bx.lt
                have ql := X.out.z.lt
                have p0 := X.out.bx.c 0 rfl
                have p1 := X.out.bx.c 1 rfl
                have p2 := X.out.bx.c 2 rfl
                have p3 := X.out.bx.c 3 rfl
                have p4 := X.out.bx.c 4 rfl
                have p5 := X.out.bx.c 5 rfl
                have p6 := X.out.bx.c 6 rfl
                have p7 := X.out.bx.c 7 rfl
                have p8 := X.out.bx.c 8 rfl
                have p9 := X.out.bx.c 9 rfl
                have p10 := X.out.bx.c 10 rfl
                have q0 := X.out.z.c 0 rfl
                have f0 := X.out.z.f 0 rfl
                have q1 := X.out.z.c 1 rfl
                have f1 := X.out.z.f 1 rfl
                have q2 := X.out.z.c 2 rfl
                have f2 := X.out.z.f 2 rfl
                have q3 := X.out.z.c 3 rfl
                have f3 := X.out.z.f 3 rfl
                have q4 := X.out.z.c 4 rfl
                have f4 := X.out.z.f 4 rfl
                have q5 := X.out.z.c 5 rfl
                have f5 := X.out.z.f 5 rfl
                have q6 := X.out.z.c 6 rfl
                have f6 := X.out.z.f 6 rfl
                have q7 := X.out.z.c 7 rfl
                have f7 := X.out.z.f 7 rfl
                have q8 := X.out.z.c 8 rfl
                have f8 := X.out.z.f 8 rfl
                have q9 := X.out.z.c 9 rfl
                have f9 := X.out.z.f 9 rfl
                have q10 := X.out.z.c 10 rfl
                have f10 := X.out.z.f 10 rfl
                have HW : Hid (Bx (st11 wr w.heap.size PP (.slice A j c)).drew w.heap.size (PP.cells (.slice A j c)) ∧ w.grownBy (st11 wr w.heap.size PP (.slice A j c)).drew (some g) ∧ OwM w.heap.size (st11 wr w.heap.size PP (.slice A j c)).drew (.slice A j c) PP.mis) := Lib.hid ⟨(st11_bx X.out.z PP (.slice A j c)).next (Below.refl _ _).drew, (st11_gb X.out.gb X.out.n2 PP (.slice A j c)).trans (gbq_of (Below.refl _ _).drew _), own_next (own_mono (own_st11 O.out PP (.slice A j c) (Nat.lt_succ_of_lt HZP.out)) (Nat.le_of_lt (Nat.lt_succ_of_lt HZP.out))) (Below.refl _ _).drew⟩
                have HQ : Hid (∀ wz, w.grownBy wz (some g) → OwM w.heap.size wz (.slice A j c) PP.mis → RdQ b g w (.returned (.tuple #[Pc.val PP (.slice A j c), .int .i64 (rdE b : Nat)])) wz) := Lib.hid fun wz h1 h2 => by
                  by_cases h : rdE b = 0
                  · exact ⟨h1, .inl ⟨h, _, by rw [h, HF.out.2]; rfl, by rw [HF.out.2]; exact h2⟩⟩
                  · exact ⟨h1, .inr ⟨h, _, _, _, _, rfl⟩⟩
                clear X O
                go_region_with (go_at_call 36; refine cE.mono ?_; rintro e w9 ⟨rfl, rfl⟩)
                all_goals
                  go_wp2_with (fail)
                  refine bp_genD (R := fun W => Bx W w.heap.size (PP.cells (.slice A j c)) ∧ w.grownBy W (some g) ∧ OwM w.heap.size W (.slice A j c) PP.mis) HW.out ?_
                  rintro wz ⟨QB, QG, QM⟩
                  have c0 := QB.c 0 rfl
                  have c1 := QB.c 1 rfl
                  have c2 := QB.c 2 rfl
                  have c3 := QB.c 3 rfl
                  have c4 := QB.c 4 rfl
                  have c5 := QB.c 5 rfl
                  have c6 := QB.c 6 rfl
                  have c7 := QB.c 7 rfl
                  have c8 := QB.c 8 rfl
                  have c9 := QB.c 9 rfl
                  have c10 := QB.c 10 rfl
                  exact bodyPost_ret (v := .tuple #[.agg #[.int .i64 PP.kind, .int .i64 PP.fr, .int .i64 PP.to_, .int .i64 PP.wr, .int .i64 PP.rd, .int .i64 PP.sq, .int .i64 PP.fi, .int .i64 PP.la, .int .i64 PP.at_, .slice A j c, .string (bs PP.pay)], .int .i64 (rdE b : Nat)]) (by simp [results, Tryd.results23, go_sem, c0, c1, c2, c3, c4, c5, c6, c7, c8, c9, c10]) rfl (HQ.out _ QG QM)
  · have hne : (((kr1 b).e : Int) != 0) = true := bne_iff_ne.2 (by omega)
    have HX := Lib.hid (HE.out he)
    clear he
    generalize (kr1 b).e = e1 at *
    generalize (kr1 b).l = l1 at *
    go_enter Tryd.func23, Tryd.ntmps23
    go_wp2_with (first
      | (go_at_call 34; refine HC1.out.mono ?_; rintro e w2 ⟨rfl, hg2, R2⟩; obtain ⟨Z2, G2⟩ := HZG.out w2 hg2; have p0 := Z2.c 0 rfl; have f0 := Z2.f 0 rfl; have p1 := Z2.c 1 rfl; have f1 := Z2.f 1 rfl; have p2 := Z2.c 2 rfl; have f2 := Z2.f 2 rfl; have p3 := Z2.c 3 rfl; have f3 := Z2.f 3 rfl; have p4 := Z2.c 4 rfl; have f4 := Z2.f 4 rfl; have p5 := Z2.c 5 rfl; have f5 := Z2.f 5 rfl; have p6 := Z2.c 6 rfl; have f6 := Z2.f 6 rfl; have p7 := Z2.c 7 rfl; have f7 := Z2.f 7 rfl; have p8 := Z2.c 8 rfl; have f8 := Z2.f 8 rfl; have p9 := Z2.c 9 rfl; have f9 := Z2.f 9 rfl; have p10 := Z2.c 10 rfl; have f10 := Z2.f 10 rfl; have pl := Z2.lt)
      | (go_at_call 62; refine (err_any g l1 e1 _ (R2.next (ab1 _ _))).mono ?_; rintro e w3 ⟨rfl, rfl⟩))
    refine bp_genD (R := fun W => Bx W w.heap.size ((P0 0).cells (.slice none 0 0)) ∧ w.grownBy W (some g)) (show _ ∧ _ from ⟨(st11_bx Z2 (P0 0) (.slice none 0 0)).next (ab1 _ _), (st11_gb G2 (Nat.le_refl _) (P0 0) (.slice none 0 0)).trans (gbq_of (ab1 _ _) _)⟩) ?_
    rintro wz ⟨QB, QG⟩
    have c0 := QB.c 0 rfl
    have c1 := QB.c 1 rfl
    have c2 := QB.c 2 rfl
    have c3 := QB.c 3 rfl
    have c4 := QB.c 4 rfl
    have c5 := QB.c 5 rfl
    have c6 := QB.c 6 rfl
    have c7 := QB.c 7 rfl
    have c8 := QB.c 8 rfl
    have c9 := QB.c 9 rfl
    have c10 := QB.c 10 rfl
    refine bodyPost_ret (v := .tuple #[.agg #[.int .i64 (P0 0).kind, .int .i64 (P0 0).fr, .int .i64 (P0 0).to_, .int .i64 (P0 0).wr, .int .i64 (P0 0).rd, .int .i64 (P0 0).sq, .int .i64 (P0 0).fi, .int .i64 (P0 0).la, .int .i64 (P0 0).at_, (.slice none 0 0), .string (bs (P0 0).pay)], .int .i64 (e1 : Nat)]) (by simp [results, Tryd.results23, go_sem, c0, c1, c2, c3, c4, c5, c6, c7, c8, c9, c10]) rfl ⟨QG, .inr ⟨by rw [HX.out]; simpa using hne, P0 0, none, 0, 0, by rw [HX.out]; rfl⟩⟩
end Go.Proofs.YtcjaaijohapeaaaDoor
