/-
  Chain, Seal, Open and their references. The tables of utf8 as the program laid them.
-/
import Derived.Test.YtghmbglnhcdbjaaDoorCf
import Derived.Test.YtghmbglnhcdbjaaDoorCd
import Derived.Test.YtghmbglnhcdbjaaDoorCr
namespace Go.Proofs.YtghmbglnhcdbjaaDoor
open Go.RowKit
/-- What a chain hashes. -/
def lk (p : Nat) (l : List UInt8) : List UInt8 := le 8 p ++ (le 8 l.length ++ l)
set_option maxRecDepth 100000 in
theorem link_any (p : Nat) (l : List UInt8) (w : World) (hp : p ≤ 18446744073709551615) (hs : l.length ≤ 1000000000000000) :
    Calls Tryd.prog 20 #[.int .u64 (p : Int), .string (bs l)] w (Ib (.string (bs (lk p l))) w) := by
  have hsz : (bs l).size = l.length := rfl
  have c1 := fun W => refBytes_any p 8 W hp (by omega) (by omega)
  have c2 := fun W => refBytes_any l.length 8 W (by omega) (by omega) (by omega)
  unfold lk
  obtain ⟨x, hx⟩ : ∃ x, le 8 p = x := ⟨_, rfl⟩
  obtain ⟨y, hy⟩ : ∃ y, le 8 l.length = y := ⟨_, rfl⟩
  have hx8 : x.length = 8 := by rw [← hx]; exact le_length 8 p
  have hy8 : y.length = 8 := by rw [← hy]; exact le_length 8 _
  rw [hx] at c1
  rw [hy] at c2
  rw [hx, hy]
  have z1 : (bs x).size = 8 := hx8
  have z2 : (bs y).size = 8 := hy8
  have a1 := bs_append x y
  have a2 := bs_append (x ++ y) l
  have z3 : (bs (x ++ y)).size = 16 := by show (x ++ y).length = 16; simp; omega
  have l0 : IntKind.u64.wrap ((l.length : Nat) : Int) = ((l.length : Nat) : Int) := by rw [IntKind.wrap_u64]; omega
  clear hx hy hx8 hy8
  go_enter Tryd.func20, Tryd.ntmps20
  go_wp2_with fail
  refine (c1 _).mono ?_
  rintro e w1 ⟨rfl, hb1⟩
  go_wp2_with fail
  refine (c2 _).mono ?_
  rintro e w2 ⟨rfl, hb2⟩
  go_wp2_with fail
  go_ret
  exact ⟨rfl, Below.next hb1 hb2⟩
set_option maxRecDepth 100000 in
theorem refChain_any (p : Nat) (l : List UInt8) (w : World) (hp : p ≤ 18446744073709551615) (hs : l.length ≤ 1000000000000000) :
    Calls Tryd.prog 22 #[.int .u64 (p : Int), .string (bs l)] w (Ib (.int .u64 (hash (lk p l) : Int)) w) := by
  have c1 := fun W => link_any p l W hp hs
  have hq : (lk p l).length = 16 + l.length := by simp [lk, le_length]; omega
  have c2 := fun W => refHash_any (lk p l) W (by omega)
  obtain ⟨q, hq2⟩ : ∃ q, lk p l = q := ⟨_, rfl⟩
  obtain ⟨h, hh⟩ : ∃ h, hash q = h := ⟨_, rfl⟩
  rw [hq2] at c1 c2 ⊢
  rw [hh] at c2 ⊢
  clear hq hq2 hh hp hs
  go_enter Tryd.func22, Tryd.ntmps22
  go_wp2_with fail
  refine (c1 _).mono ?_
  rintro e w1 ⟨rfl, hb1⟩
  go_wp2_with fail
  refine (c2 _).mono ?_
  rintro e w2 ⟨rfl, rfl⟩
  go_wp2_with fail
  go_ret
  exact ⟨rfl, hb1⟩
/-- A slice of bytes that lie in an array, as a string. -/
theorem arr_str {w : World} {g T n : Nat} {l : List UInt8} (c : Nat) (h : w.heap[g]? = some (Obj.cells (bcells l).toArray T)) (hn : n ≤ l.length) :
    (convert 28 9 (.slice (some ⟨g, 0, none⟩) n c)).run Tryd.prog w = .ok (.string (bs (l.take n))) w := by
  obtain ⟨m, hm⟩ : ∃ m, l.take n = m := ⟨_, rfl⟩
  have hl : m.length = n := by rw [← hm, List.length_take]; omega
  rw [hm, ← hl]
  refine run_convert_bytes_back w 28 9 5 ⟨g, 0, none⟩ c m Tryd.underlying28 Tryd.underlying5 Tryd.underlying9 fun j hj => ?_
  rw [show (⟨g, 0, none⟩ : Addr).add j = ⟨g, j, none⟩ by simp [Addr.add]; exact Eq.symm]
  have e : m[j] = l[j]'(by omega) := by subst hm; simp
  simp [World.cell?, h, bcells, e, show j < l.length by omega]
set_option maxRecDepth 100000 in
set_option maxHeartbeats 1000000 in
theorem chain_any (p : Nat) (l : List UInt8) (w : World) (hs : l.length ≤ 1000000000000000) (hT : Tabs w) :
    Calls Tryd.prog 21 #[.int .u64 (p : Int), .string (bs l)] w (Ib (.int .u64 (hash (lk p l) : Int)) w) := by
  have hsz : (bs l).size = l.length := rfl
  have l0 : IntKind.u64.wrap ((l.length : Nat) : Int) = ((l.length : Nat) : Int) := by rw [IntKind.wrap_u64]; omega
  have c1 := fun W => bytesOf_any p W
  have c2 := fun W => bytesOf_any l.length W
  have hq : (lk p l).length = 16 + l.length := by simp [lk, le_length]; omega
  have c3 : ∀ W, Tabs W → _ := fun W hW => hash_any (lk p l) W (by omega) hW
  have hlk : lk p l = le 8 p ++ le 8 l.length ++ l := by simp [lk]
  obtain ⟨h, hh⟩ : ∃ h, hash (lk p l) = h := ⟨_, rfl⟩
  rw [hh] at c3 ⊢
  rw [hlk] at c3
  have hx8 : (le 8 p).length = 8 := le_length 8 p
  have hy8 : (le 8 l.length).length = 8 := le_length 8 _
  have HX := Lib.hid (rfl : le 8 p = le 8 p)
  obtain ⟨x, hx⟩ : ∃ x, le 8 p = x := ⟨_, rfl⟩
  obtain ⟨y, hy⟩ : ∃ y, le 8 l.length = y := ⟨_, rfl⟩
  obtain ⟨b0, b1, b2, b3, b4, b5, b6, b7, hb⟩ := le8 p
  obtain ⟨d0, d1, d2, d3, d4, d5, d6, d7, hd⟩ := le8 l.length
  rw [hx] at hx8 c1 c3 hb
  rw [hy] at hy8 c2 c3 hd
  have ex : arr8 x = .agg #[.int .u8 (b0.toNat : Int), .int .u8 (b1.toNat : Int), .int .u8 (b2.toNat : Int), .int .u8 (b3.toNat : Int), .int .u8 (b4.toNat : Int), .int .u8 (b5.toNat : Int), .int .u8 (b6.toNat : Int), .int .u8 (b7.toNat : Int)] := by rw [hb]; rfl
  have ey : arr8 y = .agg #[.int .u8 (d0.toNat : Int), .int .u8 (d1.toNat : Int), .int .u8 (d2.toNat : Int), .int .u8 (d3.toNat : Int), .int .u8 (d4.toNat : Int), .int .u8 (d5.toNat : Int), .int .u8 (d6.toNat : Int), .int .u8 (d7.toNat : Int)] := by rw [hd]; rfl
  rw [ex] at c1
  rw [ey] at c2
  have EX := Lib.hid hb
  have EY := Lib.hid hd
  clear hb hd hx hy hh hlk hq ex ey HX
  go_enter Tryd.func21, Tryd.ntmps21
  go_wp2_with fail
  refine (c1 _).mono ?_
  rintro e w1 ⟨rfl, hb1⟩
  go_wp2_with fail
  refine (c2 _).mono ?_
  rintro e w2 ⟨rfl, hb2⟩
  go_wp2_with fail
  have xg0 := heap_alloc2_old w2 (Obj.cells #[.int .u8 (b0.toNat : Int), .int .u8 (b1.toNat : Int), .int .u8 (b2.toNat : Int), .int .u8 (b3.toNat : Int), .int .u8 (b4.toNat : Int), .int .u8 (b5.toNat : Int), .int .u8 (b6.toNat : Int), .int .u8 (b7.toNat : Int)] 49) (Obj.cells #[.int .u8 (d0.toNat : Int), .int .u8 (d1.toNat : Int), .int .u8 (d2.toNat : Int), .int .u8 (d3.toNat : Int), .int .u8 (d4.toNat : Int), .int .u8 (d5.toNat : Int), .int .u8 (d6.toNat : Int), .int .u8 (d7.toNat : Int)] 49)
  have yg0 := heap_alloc2_new w2 (Obj.cells #[.int .u8 (b0.toNat : Int), .int .u8 (b1.toNat : Int), .int .u8 (b2.toNat : Int), .int .u8 (b3.toNat : Int), .int .u8 (b4.toNat : Int), .int .u8 (b5.toNat : Int), .int .u8 (b6.toNat : Int), .int .u8 (b7.toNat : Int)] 49) (Obj.cells #[.int .u8 (d0.toNat : Int), .int .u8 (d1.toNat : Int), .int .u8 (d2.toNat : Int), .int .u8 (d3.toNat : Int), .int .u8 (d4.toNat : Int), .int .u8 (d5.toNat : Int), .int .u8 (d6.toNat : Int), .int .u8 (d7.toNat : Int)] 49)
  have hb3 : Below w.heap.size w ((w2.alloc (Obj.cells #[.int .u8 (b0.toNat : Int), .int .u8 (b1.toNat : Int), .int .u8 (b2.toNat : Int), .int .u8 (b3.toNat : Int), .int .u8 (b4.toNat : Int), .int .u8 (b5.toNat : Int), .int .u8 (b6.toNat : Int), .int .u8 (b7.toNat : Int)] 49)).alloc (Obj.cells #[.int .u8 (d0.toNat : Int), .int .u8 (d1.toNat : Int), .int .u8 (d2.toNat : Int), .int .u8 (d3.toNat : Int), .int .u8 (d4.toNat : Int), .int .u8 (d5.toNat : Int), .int .u8 (d6.toNat : Int), .int .u8 (d7.toNat : Int)] 49)) := Below.next (Below.next hb1 hb2) (((Below.refl _ w2).alloc (Nat.le_refl _) _).alloc (by simp) _)
  obtain ⟨g, hg⟩ : ∃ g, w2.heap.size = g := ⟨_, rfl⟩
  obtain ⟨k, hk⟩ : ∃ k, w2.heap.size + 1 = k := ⟨_, rfl⟩
  rw [hk] at yg0 ⊢
  rw [hg] at xg0 ⊢
  generalize ((w2.alloc (Obj.cells #[.int .u8 (b0.toNat : Int), .int .u8 (b1.toNat : Int), .int .u8 (b2.toNat : Int), .int .u8 (b3.toNat : Int), .int .u8 (b4.toNat : Int), .int .u8 (b5.toNat : Int), .int .u8 (b6.toNat : Int), .int .u8 (b7.toNat : Int)] 49)).alloc (Obj.cells #[.int .u8 (d0.toNat : Int), .int .u8 (d1.toNat : Int), .int .u8 (d2.toNat : Int), .int .u8 (d3.toNat : Int), .int .u8 (d4.toNat : Int), .int .u8 (d5.toNat : Int), .int .u8 (d6.toNat : Int), .int .u8 (d7.toNat : Int)] 49)) = W3 at *
  have xg : W3.heap[g]? = some (Obj.cells (bcells x).toArray 49) := by rw [EX.out]; exact xg0
  have yg : W3.heap[k]? = some (Obj.cells (bcells y).toArray 49) := by rw [EY.out]; exact yg0
  have xlt : g < W3.heap.size := (Array.getElem?_eq_some_iff.1 xg).1
  have ylt : k < W3.heap.size := (Array.getElem?_eq_some_iff.1 yg).1
  have hT3 := hT.below hb3
  have c3 : ∀ w, Below W3.heap.size W3 w → _ := fun w hb => c3 w (hT3.below hb)
  refine wp_region_on (by kernel_rfl) (FF [(5, Fact.at_ W3 (.pointer (some ⟨g, 0, none⟩))), (6, Fact.at_ W3 (.pointer (some ⟨k, 0, none⟩))), (1, Fact.at_ W3 (.string (bs l))), (13, Fact.at_ W3 (.slice (some ⟨g, 0, none⟩) 8 8)), (14, Fact.at_ W3 (.string (bs x))), (15, Fact.at_ W3 (.slice (some ⟨k, 0, none⟩) 8 8)), (16, Fact.at_ W3 (.string (bs y))), (17, Fact.at_ W3 (.string (bs (x ++ y)))), (18, Fact.at_ W3 (.string (bs l))), (19, Fact.at_ W3 (.string (bs (x ++ y ++ l)))), (20, Fact.at_ W3 (.int .u64 (h : Int))), (4, Fact.at_ W3 (.int .u64 (h : Int)))]) [5, 6, 1] 21 [13, 14, 15, 16, 17, 18, 19, 20, 4] rfl (by kernel_rfl) (by kernel_rfl) ?_ ?_ ?_
  · intro t ht
    simp only [List.mem_cons, List.not_mem_nil, or_false] at ht
    rcases ht with rfl | rfl | rfl
    · exact ⟨rfl, Below.refl _ _⟩
    · exact ⟨rfl, Below.refl _ _⟩
    · exact ⟨rfl, Below.refl _ _⟩
  · refine fcs ⟨at1 5 13 (.pointer (some ⟨g, 0, none⟩)) (.slice (some ⟨g, 0, none⟩) 8 8) rfl (by first | exact .inl rfl | exact .inr ⟨_, _, _, rfl, rfl, by kernel_rfl, by decide, rfl⟩) (by kernel_rfl) rfl rfl (fun a w hb h1 => by simp [execOp, h1]; go_simp), ?_⟩
    refine fcs ⟨at1 13 14 (.slice (some ⟨g, 0, none⟩) 8 8) (.string (bs x)) rfl (by first | exact .inl rfl | exact .inr ⟨_, _, _, rfl, rfl, by kernel_rfl, by decide, rfl⟩) (by kernel_rfl) rfl rfl (fun a w hb h1 => by have h3 := arr_str (n := 8) 8 ((hb.block g xlt).trans xg) (by omega); rw [List.take_of_length_le (by omega)] at h3; simp [execOp, h1, h3]), ?_⟩
    refine fcs ⟨at1 6 15 (.pointer (some ⟨k, 0, none⟩)) (.slice (some ⟨k, 0, none⟩) 8 8) rfl (by first | exact .inl rfl | exact .inr ⟨_, _, _, rfl, rfl, by kernel_rfl, by decide, rfl⟩) (by kernel_rfl) rfl rfl (fun a w hb h1 => by simp [execOp, h1]; go_simp), ?_⟩
    refine fcs ⟨at1 15 16 (.slice (some ⟨k, 0, none⟩) 8 8) (.string (bs y)) rfl (by first | exact .inl rfl | exact .inr ⟨_, _, _, rfl, rfl, by kernel_rfl, by decide, rfl⟩) (by kernel_rfl) rfl rfl (fun a w hb h1 => by have h3 := arr_str (n := 8) 8 ((hb.block k ylt).trans yg) (by omega); rw [List.take_of_length_le (by omega)] at h3; simp [execOp, h1, h3]), ?_⟩
    refine fcs ⟨at2 14 16 17 (.string (bs x)) (.string (bs y)) (.string (bs (x ++ y))) rfl (by first | exact .inl rfl | exact .inr ⟨_, _, _, rfl, rfl, by kernel_rfl, by decide, rfl⟩) (by kernel_rfl) (by kernel_rfl) rfl rfl rfl (fun a w hb h1 h2 => by simp [execOp, h1, h2]; rw [← bs_append]; go_simp; simp only [bs_size]; omega), ?_⟩
    refine fcs ⟨atcopy 1 18 (.string (bs l)) (.inl rfl) rfl (by first | exact .inl rfl | exact .inr ⟨_, _, _, rfl, rfl, by kernel_rfl, by decide, rfl⟩) (by kernel_rfl) rfl rfl, ?_⟩
    refine fcs ⟨at2 17 18 19 (.string (bs (x ++ y))) (.string (bs l)) (.string (bs (x ++ y ++ l))) rfl (by first | exact .inl rfl | exact .inr ⟨_, _, _, rfl, rfl, by kernel_rfl, by decide, rfl⟩) (by kernel_rfl) (by kernel_rfl) rfl rfl rfl (fun a w hb h1 h2 => by simp [execOp, h1, h2]; rw [← List.append_assoc, ← bs_append (x ++ y)]; go_simp; simp only [bs_size, List.length_append]; omega), ?_⟩
    refine fcs ⟨atc1 12 19 20 (.string (bs (x ++ y ++ l))) (.int .u64 (h : Int)) _ rfl rfl (by first | exact .inl rfl | exact .inr ⟨_, _, _, rfl, rfl, by kernel_rfl, by decide, rfl⟩) (by kernel_rfl) rfl (by kernel_rfl) rfl (fun w hb => c3 w hb), ?_⟩
    refine fcs ⟨atcopy 20 4 (.int .u64 (h : Int)) (.inr rfl) rfl (by first | exact .inl rfl | exact .inr ⟨_, _, _, rfl, rfl, by kernel_rfl, by decide, rfl⟩) (by kernel_rfl) rfl rfl, ?_⟩
    exact fnl
  intro vv wv hvv hbv
  have hv4 : vv 4 = (.int .u64 (h : Int)) := (hvv 4 (by decide)).1
  simp only [lay, List.foldl_cons, List.foldl_nil, List.setIfInBounds_toArray, List.set_cons_succ, List.set_cons_zero, hv4]
  go_wp2_with fail
  go_ret
  exact ⟨rfl, Below.next hb3 hbv⟩
/-- A sealed string. -/
def seal_ (l : List UInt8) : List UInt8 := le 4 (crc l) ++ l
theorem seal_length (l : List UInt8) : (seal_ l).length = 4 + l.length := by simp [seal_, le_length]
set_option maxRecDepth 100000 in
theorem refSeal_any (l : List UInt8) (w : World) (hs : l.length ≤ 1000000000000000) :
    Calls Tryd.prog 16 #[.string (bs l)] w (Ib (.string (bs (seal_ l))) w) := by
  have hsz : (bs l).size = l.length := rfl
  have c1 := fun W => refCrc_any l W (by omega)
  have hc := crc_lt l
  have c2 := fun W => refBytes_any (crc l) 4 W (by omega) (by omega) (by omega)
  unfold seal_
  obtain ⟨c, hc1⟩ : ∃ c, crc l = c := ⟨_, rfl⟩
  rw [hc1] at c1 c2 hc ⊢
  obtain ⟨x, hx⟩ : ∃ x, le 4 c = x := ⟨_, rfl⟩
  have hx8 : x.length = 4 := by rw [← hx]; exact le_length 4 c
  rw [hx] at c2 ⊢
  have z1 : (bs x).size = 4 := hx8
  have a1 := bs_append x l
  have l0 : IntKind.u64.wrap (c : Int) = (c : Int) := by rw [IntKind.wrap_u64]; omega
  clear hx hx8 hc1
  go_enter Tryd.func16, Tryd.ntmps16
  go_wp2_with fail
  refine (c1 _).mono ?_
  rintro e w1 ⟨rfl, rfl⟩
  go_wp2_with fail
  refine (c2 _).mono ?_
  rintro e w2 ⟨rfl, hb2⟩
  go_wp2_with fail
  go_ret
  exact ⟨rfl, hb2⟩
set_option maxRecDepth 100000 in
theorem seal_any (l : List UInt8) (w : World) (hs : l.length ≤ 1000000000000000) (hT : Tabs w) :
    Calls Tryd.prog 14 #[.string (bs l)] w (Ib (.string (bs (seal_ l))) w) := by
  have hsz : (bs l).size = l.length := rfl
  have c1 := crc_any l w (by omega) hT
  have hc := crc_lt l
  have c2 := fun W => bytesOf_any (crc l) W
  unfold seal_
  obtain ⟨c, hc1⟩ : ∃ c, crc l = c := ⟨_, rfl⟩
  rw [hc1] at c1 c2 hc ⊢
  have e4 : le 4 c = (le 8 c).take 4 := rfl
  rw [e4]
  obtain ⟨b0, b1, b2, b3, b4, b5, b6, b7, hb⟩ := le8 c
  rw [hb] at c2 ⊢
  have l0 : IntKind.u64.wrap (c : Int) = (c : Int) := by rw [IntKind.wrap_u64]; omega
  have ex : arr8 [b0, b1, b2, b3, b4, b5, b6, b7] = .agg #[.int .u8 (b0.toNat : Int), .int .u8 (b1.toNat : Int), .int .u8 (b2.toNat : Int), .int .u8 (b3.toNat : Int), .int .u8 (b4.toNat : Int), .int .u8 (b5.toNat : Int), .int .u8 (b6.toNat : Int), .int .u8 (b7.toNat : Int)] := rfl
  rw [ex] at c2
  have cv : ∀ w2 : World, _ := fun w2 => arr_str (w := w2.alloc (Obj.cells (bcells [b0, b1, b2, b3, b4, b5, b6, b7]).toArray 49)) (g := w2.heap.size) (n := 4) 8 (heap_alloc_new _ _) (by simp)
  obtain ⟨x, hx⟩ : ∃ x, [b0, b1, b2, b3, b4, b5, b6, b7].take 4 = x := ⟨_, rfl⟩
  have z1 : (bs x).size = 4 := by rw [← hx]; rfl
  rw [hx] at cv ⊢
  simp only [show (bcells [b0, b1, b2, b3, b4, b5, b6, b7]).toArray = #[.int .u8 (b0.toNat : Int), .int .u8 (b1.toNat : Int), .int .u8 (b2.toNat : Int), .int .u8 (b3.toNat : Int), .int .u8 (b4.toNat : Int), .int .u8 (b5.toNat : Int), .int .u8 (b6.toNat : Int), .int .u8 (b7.toNat : Int)] from rfl] at cv
  have a1 := bs_append x l
  clear hx hc1 ex hb e4
  go_enter Tryd.func14, Tryd.ntmps14
  go_wp2_with fail
  refine c1.mono ?_
  rintro e w1 ⟨rfl, hb1⟩
  go_wp2_with fail
  refine (c2 _).mono ?_
  rintro e w2 ⟨rfl, hb2⟩
  go_wp2_with fail
  go_ret
  exact ⟨rfl, (Below.next hb1 hb2).alloc (Below.next hb1 hb2).size _⟩
theorem str_ne {q l : List UInt8} (h : q ≠ l) : ((bs q).toList == (bs l).toList) = false := by rw [toList_bs, toList_bs]; simpa using h
theorem str_eq (l : List UInt8) : ((bs l).toList == (bs l).toList) = true := by simp
/-- What Open returns. -/
def opn (l : List UInt8) : List UInt8 × Nat := if l.length < 4 then ([], 1) else if seal_ (l.drop 4) = l then (l.drop 4, 0) else ([], 11)
set_option maxRecDepth 100000 in
theorem open_any (l : List UInt8) (w : World) (hs : l.length ≤ 1000000000000000) (hT : Tabs w) :
    Calls Tryd.prog 15 #[.string (bs l)] w (Ib (.tuple #[.string (bs (opn l).1), .int .i64 ((opn l).2 : Int)]) w) := by
  have hsz : (bs l).size = l.length := rfl
  have hn0 : (⟨#[]⟩ : ByteArray) = bs [] := rfl
  unfold opn
  by_cases h4 : l.length < 4
  · rw [if_pos h4]
    go_enter Tryd.func15, Tryd.ntmps15
    go_wp2_with fail
    go_ret2
    exact ⟨rfl, Below.refl _ _⟩
  · rw [if_neg h4]
    have hsl := bs_drop l 4 l.length (Nat.le_refl _)
    have c1 := seal_any (l.drop 4) w (by rw [List.length_drop]; omega) hT
    obtain ⟨m, hm⟩ : ∃ m, l.drop 4 = m := ⟨_, rfl⟩
    rw [hm] at hsl c1 ⊢
    obtain ⟨q, hq⟩ : ∃ q, seal_ m = q := ⟨_, rfl⟩
    rw [hq] at c1 ⊢
    clear hm hq
    by_cases he : q = l
    · rw [if_pos he]
      subst he
      go_enter Tryd.func15, Tryd.ntmps15
      go_wp2_with fail
      refine c1.mono ?_
      rintro e w1 ⟨rfl, hb1⟩
      go_wp2_with fail
      go_ret2
      exact ⟨rfl, hb1⟩
    · rw [if_neg he]
      have hne := str_ne he
      clear he
      go_enter Tryd.func15, Tryd.ntmps15
      go_wp2_with fail
      refine c1.mono ?_
      rintro e w1 ⟨rfl, hb1⟩
      go_wp2_with fail
      go_ret2
      exact ⟨rfl, hb1⟩
set_option maxRecDepth 100000 in
theorem refOpen_any (l : List UInt8) (w : World) (hs : l.length ≤ 1000000000000000) :
    Calls Tryd.prog 17 #[.string (bs l)] w (Ib (.tuple #[.string (bs (opn l).1), .int .i64 ((opn l).2 : Int)]) w) := by
  have hsz : (bs l).size = l.length := rfl
  have hn0 : (⟨#[]⟩ : ByteArray) = bs [] := rfl
  unfold opn
  by_cases h4 : l.length < 4
  · rw [if_pos h4]
    go_enter Tryd.func17, Tryd.ntmps17
    go_wp2_with fail
    go_ret2
    exact ⟨rfl, Below.refl _ _⟩
  · rw [if_neg h4]
    have hsl := bs_drop l 4 l.length (Nat.le_refl _)
    have c1 := refSeal_any (l.drop 4) w (by rw [List.length_drop]; omega)
    obtain ⟨m, hm⟩ : ∃ m, l.drop 4 = m := ⟨_, rfl⟩
    rw [hm] at hsl c1 ⊢
    obtain ⟨q, hq⟩ : ∃ q, seal_ m = q := ⟨_, rfl⟩
    rw [hq] at c1 ⊢
    clear hm hq
    by_cases he : q = l
    · rw [if_pos he]
      subst he
      go_enter Tryd.func17, Tryd.ntmps17
      go_wp2_with fail
      refine c1.mono ?_
      rintro e w1 ⟨rfl, hb1⟩
      go_wp2_with fail
      go_ret2
      exact ⟨rfl, hb1⟩
    · rw [if_neg he]
      have hne := str_ne he
      clear he
      go_enter Tryd.func17, Tryd.ntmps17
      go_wp2_with fail
      refine c1.mono ?_
      rintro e w1 ⟨rfl, hb1⟩
      go_wp2_with fail
      go_ret2
      exact ⟨rfl, hb1⟩
end Go.Proofs.YtghmbglnhcdbjaaDoor
