import Derived.Test.YtiooilkbbfflaaaHn
/-
  What fires up to a time. No conditions beyond those that each names.
-/
namespace Go.Proofs.Ytiooilkbbfflaaa
open Go.RowKit Go.Sort Go.Lib Go.Shelf
theorem Mv.refl {B p o : Nat} {w : World} {v : Value} {l : List Tm} (h : Sd B p o w v l) : Mv B p o v l w v w := ⟨h, .inl rfl, Fm.refl _ _, fun _ _ => rfl, fun _ => rfl⟩
theorem Mv.trans {B p o : Nat} {w w1 w2 : World} {v v1 v2 : Value} {l1 l2 : List Tm} (h : Mv B p o v l1 w v1 w1) (k : Mv B p o v1 l2 w1 v2 w2) : Mv B p o v l2 w v2 w2 :=
  ⟨k.sd, h.nb.trans h.fm.size k.nb, h.fm.trans k.fm fun i hi e => by
    rcases e with e | e
    · exact .inl e
    · rcases h.nb with n | ⟨g, n, hg⟩
      · exact .inr (n ▸ e)
      · rw [n] at e; injection e with e; omega, fun j hj => (k.cl j hj).trans (h.cl j hj), fun j => (k.fr j).trans (h.fr j)⟩
theorem Mv.grown {B p o : Nat} {w w1 w2 : World} {v v1 : Value} {l1 : List Tm} {q : Option Nat} (h : Mv B p o v l1 w v1 w1) (hp : p < w.heap.size) (hg : w1.grownBy w2 q) (hq : ∀ g, q = some g → w.heap.size ≤ g ∧ v1.ownBlock ≠ some g) : Mv B p o v l1 w v1 w2 := by
  have hpq : some p ≠ q := fun e => by have := (hq p e.symm).1; omega
  have hpb : w2.heap[p]? = w1.heap[p]? := hg.block p (Nat.lt_of_lt_of_le hp h.fm.size) hpq
  have hc : ∀ j, w2.cell? ⟨p, j, none⟩ = w1.cell? ⟨p, j, none⟩ := fun j => World.cell?_of_block hpb
  have hf : ∀ j, w2.frozen? ⟨p, j, none⟩ = w1.frozen? ⟨p, j, none⟩ := fun j => World.frozen?_of_block hpb
  refine ⟨⟨(hc o).trans h.sd.c, (hf o).trans h.sd.f, h.sd.own.kept hg ?_, h.sd.ne⟩, h.nb, ?_, fun j hj => (hc j).trans (h.cl j hj), fun j => (hf j).trans (h.fr j)⟩
  · cases hv : v1.ownBlock with
    | none => exact .inl rfl
    | some g => exact .inr (fun e => (hq g e.symm).2 hv)
  · exact h.fm.trans (Fm.gb (s := fun i => q = some i) hg fun i e => e) fun i hi e => by have := (hq i e).1; omega
theorem Mv.next {B p o : Nat} {w w1 w2 : World} {v v1 : Value} {l1 : List Tm} (h : Mv B p o v l1 w v1 w1) (hp : p < w.heap.size) (hb : Below w1.heap.size w1 w2) : Mv B p o v l1 w v1 w2 := h.grown hp (gbq_of hb none) fun g e => by cases e
theorem own_blk {w w' : World} {B : Nat} {e : TypeId} {z n : Nat} {v : Value} {xs : List Value} (h : w.ownsRow B e z v n xs) (hb : ∀ g, v.ownBlock = some g → w'.heap[g]? = w.heap[g]?) : w'.ownsRow B e z v n xs := by
  refine ⟨h.1, ?_⟩
  rcases h.2 with h1 | ⟨g, cap, cur, h1, h2, h3, h4⟩
  · exact .inl h1
  · exact .inr ⟨g, cap, cur, h1, h2, (hb g (by rw [h1]; rfl)).trans h3, h4⟩
theorem Bx.blk {w w' : World} {b : Nat} {vs : List Value} (h : Bx w b vs) (hs : w.heap.size ≤ w'.heap.size) (hb : w'.heap[b]? = w.heap[b]?) : Bx w' b vs :=
  ⟨Nat.lt_of_lt_of_le h.lt hs, fun j v e => ⟨(World.cell?_of_block (a := ⟨b, j, none⟩) hb).trans (h.at_ j v e).1, (World.frozen?_of_block (a := ⟨b, j, none⟩) hb).trans (h.at_ j v e).2⟩⟩
/-- How the loop stands. -/
structure FI (B p : Nat) (v : Value) (l : List Tm) (u : Nat) (w : World) (f : Nat) (acc : List (Nat × Nat)) (cur : List Tm) (vc x : Value) (wr : World) : Prop where
  mv : Mv B p 0 v cur w vc wr
  own : OwF w.heap.size wr x acc
  ap : ∀ g, x.ownBlock = some g → vc.ownBlock ≠ some g
  iv : Iv cur
  len : acc.length + f = 4096
  cl : cur.length ≤ l.length
  eq : fr u f acc cur = fr u 4096 [] l
/-- What fire leaves. -/
def FirP (B p : Nat) (v : Value) (l : List Tm) (u : Nat) (w : World) (e : Ending) (w' : World) : Prop :=
  (fr u 4096 [] l = none ∧ e = .returned (.tuple #[.slice none 0 0, .int .i64 3]) ∧ Fm (fun i => i = p ∨ v.ownBlock = some i) w w') ∨
  ∃ acc l' x v', fr u 4096 [] l = some (acc, l') ∧ e = .returned (.tuple #[x, .int .i64 0]) ∧ OwF w.heap.size w' x acc ∧ Mv B p 0 v l' w v' w' ∧ ∀ g, x.ownBlock = some g → v'.ownBlock ≠ some g
set_option maxRecDepth 100000 in
set_option maxHeartbeats 8000000 in
theorem fire_any (B p : Nat) (v : Value) (l : List Tm) (u : Nat) (w : World) (hl : l.length ≤ 1000) (hB : B ≤ w.heap.size) (hs : Sd B p 0 w v l) (hI : Iv l) (hu : u ≤ 1099511627776) :
    Calls Try.prog 34 #[(.pointer (some ⟨p, 0, none⟩)), .int .i64 (u : Int)] w (FirP B p v l u w) := by
  have hp := hs.lt
  have H0 : Hid (FI B p v l u w 4096 [] l v (.slice none 0 0) w) := Lib.hid ⟨Mv.refl hs, World.ownsRow_nil _ _ _ _, (fun g e => by cases e), hI, rfl, Nat.le_refl _, rfl⟩
  clear hs hI
  have HP := Lib.hid hp
  have HB := Lib.hid hB
  have HL := Lib.hid hl
  clear hp hB hl
  go_enter Try.func34, Try.ntmps34
  go_wp2_with fail
  go_loopg [6] 4096 (fun kx s6 wr => ∃ f acc cur vc, f ≤ kx ∧ Hid (FI B p v l u w f acc cur vc s6 wr))
  case atStart => exact ⟨4096, [], l, v, Nat.le_refl _, H0⟩
  case round =>
    clear H0
    obtain ⟨f, acc, cur, vc, hkx, HF⟩ := hrel
    obtain ⟨Ax, cx, rfl, -⟩ := own_nil_or HF.out.own
    have cF := first_any B p 0 vc cur wr (by have := HF.out.cl; have := HL.out; omega) HF.out.mv.sd
    obtain ⟨m, hm⟩ : ∃ m, acc.length = m := ⟨_, rfl⟩
    have HM := Lib.hid hm
    rw [hm] at HF ⊢
    clear hm
    cases cur with
    | nil =>
      have cF2 : Calls Try.prog 27 #[(.pointer (some ⟨p, 0, none⟩))] wr (Ib (.tuple #[.agg #[.int .i64 0, .int .i64 0, .int .i64 0], .bool false]) wr) := cF
      clear cF
      go_wp2_with (refine cF2.mono ?_; rintro e w1 ⟨rfl, hb1⟩)
      go_ret2
      have hb2 := Below.next hb1 (ab1 w1 (Obj.cells #[.int .i64 0, .int .i64 0, .int .i64 0] 74))
      have F := HF.out
      refine .inr ⟨acc, [], _, vc, ?_, rfl, own_next F.own hb2, F.mv.next HP.out hb2, F.ap⟩
      rw [← F.eq, fr_nil]
    | cons y r =>
      have cF2 : Calls Try.prog 27 #[(.pointer (some ⟨p, 0, none⟩))] wr (Ib (.tuple #[(.agg #[.int .i64 (y.id : Int), .int .i64 (y.at_ : Int), .int .i64 (y.per : Int)]), .bool true]) wr) := cF
      clear cF
      have hya := HF.out.iv.hat y (List.mem_cons_self ..)
      have hyp := HF.out.iv.hper y (List.mem_cons_self ..)
      by_cases hx : u < y.at_
      · have d1 : decide ((u : Int) < (y.at_ : Int)) = true := decide_eq_true (by omega)
        have d2 : decide (u < y.at_) = true := decide_eq_true hx
        have HX := Lib.hid hx
        clear hx
        go_wp2_with (refine cF2.mono ?_; rintro e w1 ⟨rfl, hb1⟩)
        go_ret2
        have hb2 := Below.next hb1 (ab1 w1 (Obj.cells #[.int .i64 (y.id : Int), .int .i64 (y.at_ : Int), .int .i64 (y.per : Int)] 74))
        have F := HF.out
        refine .inr ⟨acc, y :: r, _, vc, ?_, rfl, own_next F.own hb2, F.mv.next HP.out hb2, F.ap⟩
        rw [← F.eq, fr_stop HX.out]
      · have d1 : decide ((u : Int) < (y.at_ : Int)) = false := decide_eq_false (by omega)
        have d2 : decide (u < y.at_) = false := decide_eq_false hx
        have HX := Lib.hid (show y.at_ ≤ u by omega)
        have hyu : y.at_ ≤ 1099511627776 := by omega
        clear hx
        cases f with
        | zero =>
          have hm : m = 4096 := by have := HF.out.len; rw [HM.out] at this; omega
          have d3 : decide ((4096 : Int) ≤ (m : Int)) = true := decide_eq_true (by omega)
          have d4 : decide (4096 ≤ m) = true := decide_eq_true (by omega)
          clear hm
          go_wp2_with (refine cF2.mono ?_; rintro e w1 ⟨rfl, hb1⟩)
          go_ret2
          have hb2 := Below.next hb1 (ab1 w1 (Obj.cells #[.int .i64 (y.id : Int), .int .i64 (y.at_ : Int), .int .i64 (y.per : Int)] 74))
          have F := HF.out
          refine .inl ⟨?_, rfl, (F.mv.next HP.out hb2).fm⟩
          rw [← F.eq, fr_long HX.out]
        | succ f =>
          have hm : m < 4096 := by have := HF.out.len; rw [HM.out] at this; omega
          have d3 : decide ((4096 : Int) ≤ (m : Int)) = false := decide_eq_false (by omega)
          have d4 : decide (4096 ≤ m) = false := decide_eq_false (by omega)
          have hrl : r.length ≤ 1000 := by have := HF.out.cl; have := HL.out; simp only [List.length_cons] at *; omega
          go_upto_region 7 with (refine cF2.mono ?_; rintro e w1 ⟨rfl, hb1⟩)
          have hb2 := Below.next hb1 (ab1 w1 (Obj.cells #[.int .i64 (y.id : Int), .int .i64 (y.at_ : Int), .int .i64 (y.per : Int)] 74))
          have B2 := Bx.new3 w1 74 (.int .i64 (y.id : Int)) (.int .i64 (y.at_ : Int)) (.int .i64 (y.per : Int))
          have hge := hb1.size
          generalize w1.alloc (Obj.cells #[.int .i64 (y.id : Int), .int .i64 (y.at_ : Int), .int .i64 (y.per : Int)] 74) = w2 at *
          generalize w1.heap.size = b7 at *
          clear cF2 hb1
          have s0 := B2.c 0 rfl
          have s1 := B2.c 1 rfl
          have s2 := B2.c 2 rfl
          have l2 := B2.lt
          have ho2 := own_next HF.out.own (Below.next hb2 (ab1 w2 (Obj.cells #[.int .i64 (y.id : Int), .int .i64 (y.at_ : Int)] 49)))
          have hc2 := Bx.new2 w2 49 (.int .i64 (y.id : Int)) (.int .i64 (y.at_ : Int))
          have hB2 : w.heap.size ≤ (w2.alloc (Obj.cells #[.int .i64 (y.id : Int), .int .i64 (y.at_ : Int)] 49)).heap.size := by have := HF.out.mv.fm.size; have := hb2.size; simp; omega
          have HO2 := Lib.hid ho2
          have HC2 := Lib.hid hc2
          have HB2 := Lib.hid hB2
          have HBX := Lib.hid B2
          clear ho2 hc2 hB2 B2
          go_upto_region 8 with (at_builtin; refine wpList_pushF rfl _ _ rfl w.heap.size _ acc (y.id, y.at_) w2.heap.size 1 rfl rfl HO2.out HC2.out (by rw [HM.out]; omega) HB2.out ?_)
          intro v3 w3 ho3 hg3 hn3
          obtain ⟨A3, c3, rfl, -⟩ := own_nil_or ho3
          have F := HF.out
          have hw2 : wr.grownBy w3 (Value.slice Ax m cx).ownBlock := (gbq_of (Below.next hb2 (ab1 w2 _)) _).trans hg3
          have hq : ∀ g, (Value.slice Ax m cx).ownBlock = some g → w.heap.size ≤ g ∧ vc.ownBlock ≠ some g := fun g e => ⟨(F.own.lt g e).1, F.ap g e⟩
          have M3 := F.mv.grown HP.out hw2 hq
          have ap3 : ∀ g, (Value.slice A3 (acc ++ [(y.id, y.at_)]).length c3).ownBlock = some g → vc.ownBlock ≠ some g := fun g e => by
            rcases hn3 with h | h
            · rw [h] at e; exact F.ap g e
            · rw [h] at e; injection e with e
              intro e2
              have := (F.mv.sd.own.lt g e2).2
              have := hb2.size
              first | omega | (simp at e; omega)
          have B3 : Bx w3 b7 [.int .i64 (y.id : Int), .int .i64 (y.at_ : Int), .int .i64 (y.per : Int)] := (HBX.out.next (ab1 w2 _)).blk hg3.size (hg3.block b7 (by simp; omega) (fun e => by
            have h1 := (F.own.lt b7 e.symm).2
            omega))
          have ap7 : (Value.slice A3 (acc ++ [(y.id, y.at_)]).length c3).ownBlock ≠ some b7 := fun e => by
            rcases hn3 with h | h
            · rw [h] at e; have := (F.own.lt b7 e).2; omega
            · rw [h] at e; injection e with e
              first | omega | (simp at e; omega)
          have H3 := Lib.hid (And.intro ho3 (And.intro M3 (And.intro ap3 (And.intro B3 ap7))))
          have hB3 := Lib.hid (Nat.le_trans hb2.size (Nat.le_trans (by simp) hg3.size) : wr.heap.size ≤ w3.heap.size)
          clear ho3 M3 ap3 B3 ap7 hg3 hn3 hw2 hq F
          clear s0 s1 s2 l2
          have cR := removeFirst_any B p 0 vc y r w3 (by omega) H3.out.2.1.sd
          go_upto_region 9 with (refine cR.mono ?_; rintro e w4 ⟨rfl, v4, M4⟩)
          have F := HF.out
          obtain ⟨ho3, M3, ap3, B3, ap7⟩ := H3.out
          have hlen : (acc ++ [(y.id, y.at_)]).length = acc.length + 1 := by simp
          rw [hlen] at ap3 ap7
          have ho3 : OwF w.heap.size w3 (.slice A3 (acc.length + 1) c3) (acc ++ [(y.id, y.at_)]) := by rw [hlen] at ho3; exact ho3
          have hvc : ∀ g, vc.ownBlock = some g → g < b7 := fun g e => by have := (F.mv.sd.own.lt g e).2; omega
          have hpb7 : p < b7 := by have := HP.out; have := F.mv.fm.size; omega
          have hn7 : ¬ (b7 = p ∨ vc.ownBlock = some b7) := fun e => by
            rcases e with e | e
            · omega
            · have := hvc b7 e; omega
          have hv47 : v4.ownBlock ≠ some b7 := fun e => by
            rcases M4.nb with n | ⟨g, n, hg⟩
            · rw [n] at e; have := hvc b7 e; omega
            · rw [n] at e; injection e with e; have := B3.lt; omega
          have B4 : Bx w4 b7 [.int .i64 (y.id : Int), .int .i64 (y.at_ : Int), .int .i64 (y.per : Int)] := B3.blk M4.fm.size (M4.fm.blk b7 B3.lt hn7)
          have ho4 : OwF w.heap.size w4 (.slice A3 (acc.length + 1) c3) (acc ++ [(y.id, y.at_)]) := own_blk ho3 fun g e => M4.fm.blk g (ho3.lt g e).2 fun e2 => by
            rcases e2 with e2 | e2
            · have := (ho3.lt g e).1; have := HP.out; omega
            · exact ap3 g e e2
          have ap4 : ∀ g, (Value.slice A3 (acc.length + 1) c3).ownBlock = some g → v4.ownBlock ≠ some g := fun g e e2 => by
            rcases M4.nb with n | ⟨g', n, hg⟩
            · rw [n] at e2; exact ap3 g e e2
            · rw [n] at e2; injection e2 with e2; have := (ho3.lt g e).2; omega
          have MM := M3.trans M4
          have hle1 : r.length ≤ l.length := by have := F.cl; simp only [List.length_cons] at this; omega
          have hlm : (acc ++ [(y.id, y.at_)]).length + f = 4096 := by have := F.len; rw [hlen]; omega
          have heq : fr u f (acc ++ [(y.id, y.at_)]) (nxt y r) = fr u 4096 [] l := by rw [← F.eq, fr_step HX.out]
          have hivn : Iv (nxt y r) := F.iv.nxt (by have := HX.out; omega)
          have b0 := B4.c 0 rfl
          have b1 := B4.c 1 rfl
          have b2 := B4.c 2 rfl
          have f1 := B4.f 1 rfl
          have l4 := B4.lt
          have hb7w : w.heap.size ≤ b7 := by have := F.mv.fm.size; omega
          by_cases hy0 : 0 < y.per
          case neg =>
            have e1 : decide ((0 : Int) < (y.per : Int)) = false := decide_eq_false (by omega)
            have e2 : decide (0 < y.per) = false := decide_eq_false hy0
            have hnx : nxt y r = r := by unfold nxt; rw [if_neg hy0]
            rw [hnx] at heq hivn
            have HZ : Hid (FI B p v l u w f (acc ++ [(y.id, y.at_)]) r v4 (.slice A3 (acc.length + 1) c3) w4) := Lib.hid ⟨MM, ho4, ap4, hivn, hlm, hle1, heq⟩
            clear hnx hivn heq hlm hle1 MM ap4 ho4 hv47 hn7 hpb7 hvc ap3 ap7 ho3 hlen M3 B3 M4 F cR H3 HF B4 hy0 hrl hb7w
            go_wp2_with fail
            go_roundg f
            case measure => omega
            case rel => exact ⟨f, _, r, v4, Nat.le_refl _, HZ⟩
          case pos =>
            have e1 : decide ((0 : Int) < (y.per : Int)) = true := decide_eq_true (by omega)
            have e2 : decide (0 < y.per) = true := decide_eq_true hy0
            have hnx : nxt y r = ins ⟨y.id, y.at_ + y.per, y.per⟩ r := by unfold nxt; rw [if_pos hy0]
            rw [hnx] at heq hivn
            have gS := gb_set1 w4 ⟨b7, 1, none⟩ (.int .i64 ((y.at_ : Int) + (y.per : Int)))
            have B5 := B4.put1 1 (.int .i64 ((y.at_ : Int) + (y.per : Int)))
            have M5 := MM.grown HP.out gS fun g e => by injection e with e; subst e; exact ⟨hb7w, hv47⟩
            have ho5 : OwF w.heap.size (w4.setCell ⟨b7, 1, none⟩ (.int .i64 ((y.at_ : Int) + (y.per : Int)))) (.slice A3 (acc.length + 1) c3) (acc ++ [(y.id, y.at_)]) := by
              exact ho4.kept gS (.inr ap7)
            have cS := sadd_any B p 0 v4 ⟨y.id, y.at_ + y.per, y.per⟩ r (w4.setCell ⟨b7, 1, none⟩ (.int .i64 ((y.at_ : Int) + (y.per : Int)))) (by omega) (Nat.le_trans HB.out M5.fm.size) M5.sd (fun i j hi hj hij h => sq_mono F.iv.tail.sq _ i j hi hj hij h)
            have cS2 : Calls Try.prog 37 #[(.pointer (some ⟨p, 0, none⟩)), .agg #[.int .i64 (y.id : Int), .int .i64 ((y.at_ : Int) + (y.per : Int)), .int .i64 (y.per : Int)]] (w4.setCell ⟨b7, 1, none⟩ (.int .i64 ((y.at_ : Int) + (y.per : Int)))) (MvP B p 0 v4 (ins ⟨y.id, y.at_ + y.per, y.per⟩ r) (.tuple #[]) (w4.setCell ⟨b7, 1, none⟩ (.int .i64 ((y.at_ : Int) + (y.per : Int))))) := by
              have h := cS
              simp only [Int.natCast_add] at h
              exact h
            have HZ : ∀ w6 v6, Mv B p 0 v4 (ins ⟨y.id, y.at_ + y.per, y.per⟩ r) (w4.setCell ⟨b7, 1, none⟩ (.int .i64 ((y.at_ : Int) + (y.per : Int)))) v6 w6 → FI B p v l u w f (acc ++ [(y.id, y.at_)]) (ins ⟨y.id, y.at_ + y.per, y.per⟩ r) v6 (.slice A3 (acc.length + 1) c3) w6 := fun w6 v6 M6 => by
              refine ⟨M5.trans M6, own_blk ho5 fun g e => M6.fm.blk g (ho5.lt g e).2 fun e2 => ?_, fun g e e2 => ?_, hivn, hlm, ?_, heq⟩
              · rcases e2 with e2 | e2
                · have := (ho5.lt g e).1; have := HP.out; omega
                · exact ap4 g e e2
              · rcases M6.nb with n | ⟨g', n, hg⟩
                · rw [n] at e2; exact ap4 g e e2
                · rw [n] at e2; injection e2 with e2; have := (ho5.lt g e).2; omega
              · rw [ins_len]; have := F.cl; simp only [List.length_cons] at this; omega
            have HZ2 := Lib.hid HZ
            clear HZ hnx hivn heq hlm hle1 MM ap4 ho4 hv47 hn7 hpb7 hvc ap3 ap7 ho3 hlen M3 B3 M4 F cR H3 HF B4 hy0 hrl hb7w cS gS B5 M5 ho5
            go_wp2_with (refine cS2.mono ?_; rintro e w6 ⟨rfl, v6, M6⟩)
            go_roundg f
            case measure => omega
            case rel => exact ⟨f, _, _, v6, Nat.le_refl _, Lib.hid (HZ2.out w6 v6 M6)⟩
end Go.Proofs.Ytiooilkbbfflaaa
