/-
  The law ArithBits answers true, for all words.
-/
import Derived.WalkSpells
import Derived.WalkMore
import Derived.BigRegion
import Derived.BigQuiet
import Derived.Test.YtbhoimeneekdfaaMathBb
import Derived.Test.YtbhoimeneekdfaaSlots
namespace Go.Proofs.Ytbhoimeneekdfaa
open Go.RowKit Go.Maps
set_option linter.unusedVariables false
set_option linter.unusedSimpArgs false
set_option maxRecDepth 10000

theorem unaryW_any (op a v : Int) (t : Bool) (W w : World) (hW : Below W.heap.size W w) (hv : unV op a = v) (ht : unB op = t) (h0 : 0 ≤ op) (h1 : op < 65536) (a0 : 0 ≤ a) (a1 : a < 4294967296) : Calls Try.prog 7 #[.int .u16 op, .int .u32 a] w fun e w' => e = .returned (.tuple #[.int .u32 v, .bool t]) ∧ Below W.heap.size W w' := by
  subst hv ht
  refine (arithUnary_any op a w h0 h1 a0 a1).mono ?_
  rintro e w' ⟨rfl, hb⟩
  exact ⟨rfl, hW.trans (hb.mono hW.size)⟩
theorem view_new (w : World) (zs : List Int) (T : TypeId) : View .u32 (w.alloc (.cells (zs.map (Value.int .u32)).toArray T)) (some ⟨w.heap.size, 0, none⟩) zs := by
  intro j hj
  refine ⟨w.heap.size, 0, rfl, by simp, ?_⟩
  have h := heap_alloc_new w (.cells (zs.map (Value.int .u32)).toArray T)
  simp only [World.cell?, h]
  simp [nth, List.getD, hj]
theorem field3_any (op z0 z1 z2 v : Int) (t : Bool) (W w : World) (hW : Below W.heap.size W w) (hv : fiV op [z0, z1, z2] = v) (ht : fiB op [z0, z1, z2] = t) (h0 : 0 ≤ op) (h1 : op < 65536) (i0 : 0 ≤ z0 ∧ z0 < 4294967296) (i1 : 0 ≤ z1 ∧ z1 < 4294967296) (i2 : 0 ≤ z2 ∧ z2 < 4294967296) : Calls Try.prog 11 #[.int .u16 op, .slice (some ⟨w.heap.size, 0, none⟩) 3 3] (w.alloc (.cells #[.int .u32 z0, .int .u32 z1, .int .u32 z2] 23)) fun e w' => e = .returned (.tuple #[.int .u32 v, .bool t]) ∧ Below W.heap.size W w' := by
  subst hv ht
  have hn := view_new w [z0, z1, z2] 23
  refine (arithField_any op _ 3 3 [z0, z1, z2] _ h0 h1 hn (by intro z hz; simp at hz; rcases hz with rfl | rfl | rfl <;> assumption) rfl).mono ?_
  rintro e w' ⟨rfl, hb⟩
  have hA := hW.alloc hW.size (.cells #[.int .u32 z0, .int .u32 z1, .int .u32 z2] 23)
  exact ⟨rfl, hA.trans (hb.mono hA.size)⟩
theorem field4_any (op z0 z1 z2 z3 v : Int) (t : Bool) (W w : World) (hW : Below W.heap.size W w) (hv : fiV op [z0, z1, z2, z3] = v) (ht : fiB op [z0, z1, z2, z3] = t) (h0 : 0 ≤ op) (h1 : op < 65536) (i0 : 0 ≤ z0 ∧ z0 < 4294967296) (i1 : 0 ≤ z1 ∧ z1 < 4294967296) (i2 : 0 ≤ z2 ∧ z2 < 4294967296) (i3 : 0 ≤ z3 ∧ z3 < 4294967296) : Calls Try.prog 11 #[.int .u16 op, .slice (some ⟨w.heap.size, 0, none⟩) 4 4] (w.alloc (.cells #[.int .u32 z0, .int .u32 z1, .int .u32 z2, .int .u32 z3] 23)) fun e w' => e = .returned (.tuple #[.int .u32 v, .bool t]) ∧ Below W.heap.size W w' := by
  subst hv ht
  have hn := view_new w [z0, z1, z2, z3] 23
  refine (arithField_any op _ 4 4 [z0, z1, z2, z3] _ h0 h1 hn (by intro z hz; simp at hz; rcases hz with rfl | rfl | rfl | rfl <;> assumption) rfl).mono ?_
  rintro e w' ⟨rfl, hb⟩
  have hA := hW.alloc hW.size (.cells #[.int .u32 z0, .int .u32 z1, .int .u32 z2, .int .u32 z3] 23)
  exact ⟨rfl, hA.trans (hb.mono hA.size)⟩

set_option maxHeartbeats 8000000 in
theorem arithBits_small (a b x c r n p q o A1 A2 A3 A4 F G H K S N : Int) (w : World) (a0 : 0 ≤ a ∧ a < 4294967296) (b0 : 0 ≤ b ∧ b < 4294967296) (x0 : 0 ≤ x ∧ x < 4294967296) (c0 : 0 ≤ c ∧ c < 4294967296)
    (u1 : unV 204 a = r) (u2 : unV 204 r = a) (u3 : unV 200 a = n) (u4 : unV 205 a = p) (u5 : unV 205 n = q) (u6 : unV 205 r = p) (k1 : p + q = 32) (ip : 0 ≤ p ∧ p ≤ 32) (iq : 0 ≤ q ∧ q ≤ 32) (ir : 0 ≤ r ∧ r < 4294967296) (inn : 0 ≤ n ∧ n < 4294967296)
    (e1 : binV 198 a n = 4294967295) (e2 : binV 196 a x = A1) (e3 : binV 194 A1 x = A2) (e4 : binV 194 4294967295 x = A3) (e5 : binV 199 a A3 = A2) (ho : x % 32 = o) (e6 : binV 196 1 o = A4) (e7 : binV 132 a A4 = A1) (io : 0 ≤ o ∧ o < 32) (j1 : 0 ≤ A1 ∧ A1 < 4294967296) (j2 : 0 ≤ A3 ∧ A3 < 4294967296) (j3 : 0 ≤ A4 ∧ A4 < 4294967296)
    (f1 : fiV 201 [a, b, x, c] = F) (f2 : fiV 203 [F, x, c] = G) (f3 : fiV 203 [b, 0, c] = H) (f4 : fiV 203 [b, 0, N] = G) (f5 : fiV 203 [a, x, c] = K) (f6 : fiV 201 [F, K, x, c] = a) (f7 : fiV 202 [a, x, c] = S) (f8 : fiV 203 [S, 0, N] = K)
    (b1 : fiB 201 [a, b, x, c] = true) (b2 : fiB 203 [F, x, c] = true) (b3 : fiB 203 [b, 0, c] = true) (b4 : fiB 203 [b, 0, N] = true) (b5 : fiB 203 [a, x, c] = true) (b6 : fiB 201 [F, K, x, c] = true) (b7 : fiB 202 [a, x, c] = true) (b8 : fiB 203 [S, 0, N] = true)
    (iF : 0 ≤ F ∧ F < 4294967296) (iK : 0 ≤ K ∧ K < 4294967296) (iS : 0 ≤ S ∧ S < 4294967296) (iN : 0 ≤ N ∧ N ≤ 32) (hn : c < 32 - o) (hN : c = N) :
    Calls Try.prog 5 #[.agg #[.int .u32 a, .int .u32 b, .int .u32 x, .int .u32 c]] w fun e w' => e = .returned (.bool true) ∧ Below w.heap.size w w' := by
  have t1 : unB 204 = true := rfl
  have t2 : unB 200 = true := rfl
  have t3 : unB 205 = true := rfl
  have hb0 : Below w.heap.size w (w.alloc (.cells #[.int .u32 a, .int .u32 b, .int .u32 x, .int .u32 c] 34)) := (Below.refl _ w).alloc (Nat.le_refl _) _
  have i00 : (0 : Int) ≤ 0 ∧ (0 : Int) < 4294967296 := by omega
  subst hN
  obtain rfl : H = G := f3.symm.trans f4
  have hlt : c < 32 := by omega
  clear f4 b4
  go_enter Try.func5, Try.ntmps5
  go_wp2_with fail
  go_quiet (fail)
  generalize hW : (w.alloc (.cells #[.int .u32 a, .int .u32 b, .int .u32 x, .int .u32 c] 34)).drewN nq = W1
  have hb : Below w.heap.size w W1 := by rw [← hW]; exact bel_drewN hb0 nq
  clear hW hb0
  go_wp2_with (first | (go_at_call 13; refine (twoV_any _ _ _ _ w _ (by assumption) (by assumption) (by omega) (by omega) (by omega) (by omega) (by omega) (by omega)).mono ?_; rintro e w' ⟨rfl, hb⟩) | (go_at_call 7; refine (unaryW_any _ _ _ _ w _ (by assumption) (by assumption) (by assumption) (by omega) (by omega) (by omega) (by omega)).mono ?_; rintro e w' ⟨rfl, hb⟩) | (go_at_call 11; first | (with_reducible refine (field3_any _ _ _ _ _ _ w _ (by assumption) (by assumption) (by assumption) (by omega) (by omega) (by omega) (by omega) (by omega)).mono ?_; rintro e w' ⟨rfl, hb⟩) | (with_reducible refine (field4_any _ _ _ _ _ _ _ w _ (by assumption) (by assumption) (by assumption) (by omega) (by omega) (by omega) (by omega) (by omega) (by omega)).mono ?_; rintro e w' ⟨rfl, hb⟩)))
  go_ret
  exact ⟨rfl, by assumption⟩

set_option maxHeartbeats 8000000 in
theorem arithBits_great (a b x c r n p q o A1 A2 A3 A4 F G H K S N : Int) (w : World) (a0 : 0 ≤ a ∧ a < 4294967296) (b0 : 0 ≤ b ∧ b < 4294967296) (x0 : 0 ≤ x ∧ x < 4294967296) (c0 : 0 ≤ c ∧ c < 4294967296)
    (u1 : unV 204 a = r) (u2 : unV 204 r = a) (u3 : unV 200 a = n) (u4 : unV 205 a = p) (u5 : unV 205 n = q) (u6 : unV 205 r = p) (k1 : p + q = 32) (ip : 0 ≤ p ∧ p ≤ 32) (iq : 0 ≤ q ∧ q ≤ 32) (ir : 0 ≤ r ∧ r < 4294967296) (inn : 0 ≤ n ∧ n < 4294967296)
    (e1 : binV 198 a n = 4294967295) (e2 : binV 196 a x = A1) (e3 : binV 194 A1 x = A2) (e4 : binV 194 4294967295 x = A3) (e5 : binV 199 a A3 = A2) (ho : x % 32 = o) (e6 : binV 196 1 o = A4) (e7 : binV 132 a A4 = A1) (io : 0 ≤ o ∧ o < 32) (j1 : 0 ≤ A1 ∧ A1 < 4294967296) (j2 : 0 ≤ A3 ∧ A3 < 4294967296) (j3 : 0 ≤ A4 ∧ A4 < 4294967296)
    (f1 : fiV 201 [a, b, x, c] = F) (f2 : fiV 203 [F, x, c] = G) (f3 : fiV 203 [b, 0, c] = H) (f4 : fiV 203 [b, 0, N] = G) (f5 : fiV 203 [a, x, c] = K) (f6 : fiV 201 [F, K, x, c] = a) (f7 : fiV 202 [a, x, c] = S) (f8 : fiV 203 [S, 0, N] = K)
    (b1 : fiB 201 [a, b, x, c] = true) (b2 : fiB 203 [F, x, c] = true) (b3 : fiB 203 [b, 0, c] = true) (b4 : fiB 203 [b, 0, N] = true) (b5 : fiB 203 [a, x, c] = true) (b6 : fiB 201 [F, K, x, c] = true) (b7 : fiB 202 [a, x, c] = true) (b8 : fiB 203 [S, 0, N] = true)
    (iF : 0 ≤ F ∧ F < 4294967296) (iK : 0 ≤ K ∧ K < 4294967296) (iS : 0 ≤ S ∧ S < 4294967296) (iN : 0 ≤ N ∧ N ≤ 32) (hn : ¬ c < 32 - o) (hN : N = 32 - o) (hlt : N < 32) :
    Calls Try.prog 5 #[.agg #[.int .u32 a, .int .u32 b, .int .u32 x, .int .u32 c]] w fun e w' => e = .returned (.bool true) ∧ Below w.heap.size w w' := by
  have t1 : unB 204 = true := rfl
  have t2 : unB 200 = true := rfl
  have t3 : unB 205 = true := rfl
  have hb0 : Below w.heap.size w (w.alloc (.cells #[.int .u32 a, .int .u32 b, .int .u32 x, .int .u32 c] 34)) := (Below.refl _ w).alloc (Nat.le_refl _) _
  have i00 : (0 : Int) ≤ 0 ∧ (0 : Int) < 4294967296 := by omega
  subst hN
  go_enter Try.func5, Try.ntmps5
  go_wp2_with fail
  go_quiet (fail)
  generalize hW : (w.alloc (.cells #[.int .u32 a, .int .u32 b, .int .u32 x, .int .u32 c] 34)).drewN nq = W1
  have hb : Below w.heap.size w W1 := by rw [← hW]; exact bel_drewN hb0 nq
  clear hW hb0
  go_wp2_with (first | (go_at_call 13; refine (twoV_any _ _ _ _ w _ (by assumption) (by assumption) (by omega) (by omega) (by omega) (by omega) (by omega) (by omega)).mono ?_; rintro e w' ⟨rfl, hb⟩) | (go_at_call 7; refine (unaryW_any _ _ _ _ w _ (by assumption) (by assumption) (by assumption) (by omega) (by omega) (by omega) (by omega)).mono ?_; rintro e w' ⟨rfl, hb⟩) | (go_at_call 11; first | (with_reducible refine (field3_any _ _ _ _ _ _ w _ (by assumption) (by assumption) (by assumption) (by omega) (by omega) (by omega) (by omega) (by omega)).mono ?_; rintro e w' ⟨rfl, hb⟩) | (with_reducible refine (field4_any _ _ _ _ _ _ _ w _ (by assumption) (by assumption) (by assumption) (by omega) (by omega) (by omega) (by omega) (by omega) (by omega)).mono ?_; rintro e w' ⟨rfl, hb⟩)))
  go_ret
  exact ⟨rfl, by assumption⟩

set_option maxHeartbeats 8000000 in
theorem arithBits_whole (a b x c r n p q o A1 A2 A3 A4 F G H K S N : Int) (w : World) (a0 : 0 ≤ a ∧ a < 4294967296) (b0 : 0 ≤ b ∧ b < 4294967296) (x0 : 0 ≤ x ∧ x < 4294967296) (c0 : 0 ≤ c ∧ c < 4294967296)
    (u1 : unV 204 a = r) (u2 : unV 204 r = a) (u3 : unV 200 a = n) (u4 : unV 205 a = p) (u5 : unV 205 n = q) (u6 : unV 205 r = p) (k1 : p + q = 32) (ip : 0 ≤ p ∧ p ≤ 32) (iq : 0 ≤ q ∧ q ≤ 32) (ir : 0 ≤ r ∧ r < 4294967296) (inn : 0 ≤ n ∧ n < 4294967296)
    (e1 : binV 198 a n = 4294967295) (e2 : binV 196 a x = A1) (e3 : binV 194 A1 x = A2) (e4 : binV 194 4294967295 x = A3) (e5 : binV 199 a A3 = A2) (ho : x % 32 = o) (e6 : binV 196 1 o = A4) (e7 : binV 132 a A4 = A1) (io : 0 ≤ o ∧ o < 32) (j1 : 0 ≤ A1 ∧ A1 < 4294967296) (j2 : 0 ≤ A3 ∧ A3 < 4294967296) (j3 : 0 ≤ A4 ∧ A4 < 4294967296)
    (f1 : fiV 201 [a, b, x, c] = F) (f2 : fiV 203 [F, x, c] = G) (f3 : fiV 203 [b, 0, c] = H) (f4 : fiV 203 [b, 0, N] = G) (f5 : fiV 203 [a, x, c] = K) (f6 : fiV 201 [F, K, x, c] = a) (f7 : fiV 202 [a, x, c] = S) (f8 : fiV 203 [S, 0, N] = K)
    (b1 : fiB 201 [a, b, x, c] = true) (b2 : fiB 203 [F, x, c] = true) (b3 : fiB 203 [b, 0, c] = true) (b4 : fiB 203 [b, 0, N] = true) (b5 : fiB 203 [a, x, c] = true) (b6 : fiB 201 [F, K, x, c] = true) (b7 : fiB 202 [a, x, c] = true) (b8 : fiB 203 [S, 0, N] = true)
    (iF : 0 ≤ F ∧ F < 4294967296) (iK : 0 ≤ K ∧ K < 4294967296) (iS : 0 ≤ S ∧ S < 4294967296) (iN : 0 ≤ N ∧ N ≤ 32) (hn : ¬ c < 32 - o) (hN : N = 32 - o) (hlt : ¬ N < 32) (hH : b = H) :
    Calls Try.prog 5 #[.agg #[.int .u32 a, .int .u32 b, .int .u32 x, .int .u32 c]] w fun e w' => e = .returned (.bool true) ∧ Below w.heap.size w w' := by
  have t1 : unB 204 = true := rfl
  have t2 : unB 200 = true := rfl
  have t3 : unB 205 = true := rfl
  have hb0 : Below w.heap.size w (w.alloc (.cells #[.int .u32 a, .int .u32 b, .int .u32 x, .int .u32 c] 34)) := (Below.refl _ w).alloc (Nat.le_refl _) _
  have i00 : (0 : Int) ≤ 0 ∧ (0 : Int) < 4294967296 := by omega
  subst hH
  subst hN
  go_enter Try.func5, Try.ntmps5
  go_wp2_with fail
  go_quiet (fail)
  generalize hW : (w.alloc (.cells #[.int .u32 a, .int .u32 b, .int .u32 x, .int .u32 c] 34)).drewN nq = W1
  have hb : Below w.heap.size w W1 := by rw [← hW]; exact bel_drewN hb0 nq
  clear hW hb0
  go_wp2_with (first | (go_at_call 13; refine (twoV_any _ _ _ _ w _ (by assumption) (by assumption) (by omega) (by omega) (by omega) (by omega) (by omega) (by omega)).mono ?_; rintro e w' ⟨rfl, hb⟩) | (go_at_call 7; refine (unaryW_any _ _ _ _ w _ (by assumption) (by assumption) (by assumption) (by omega) (by omega) (by omega) (by omega)).mono ?_; rintro e w' ⟨rfl, hb⟩) | (go_at_call 11; first | (with_reducible refine (field3_any _ _ _ _ _ _ w _ (by assumption) (by assumption) (by assumption) (by omega) (by omega) (by omega) (by omega) (by omega)).mono ?_; rintro e w' ⟨rfl, hb⟩) | (with_reducible refine (field4_any _ _ _ _ _ _ _ w _ (by assumption) (by assumption) (by assumption) (by omega) (by omega) (by omega) (by omega) (by omega) (by omega)).mono ?_; rintro e w' ⟨rfl, hb⟩)))
  go_ret
  exact ⟨rfl, by assumption⟩

theorem arithBits_true (w : World) (a b x c : Int) (a0 : 0 ≤ a) (a1 : a < 4294967296) (b0 : 0 ≤ b) (b1 : b < 4294967296) (x0 : 0 ≤ x) (x1 : x < 4294967296) (c0 : 0 ≤ c) (c1 : c < 4294967296) : Calls Try.prog 5 #[.agg #[.int .u32 a, .int .u32 b, .int .u32 x, .int .u32 c]] w fun e w' => e = .returned (.bool true) ∧ Below w.heap.size w w' := by
  have hr := rev_in a
  have ho := offN_lt x
  have hw := widN_le (offN x) c ho
  have hoe : x % 32 = (offN x : Int) := by unfold offN; omega
  have hn : (0 : Int) ≤ unV 200 a ∧ unV 200 a < 4294967296 := by show (0 : Int) ≤ 4294967295 - a ∧ 4294967295 - a < 4294967296; omega
  have hN : (widN (offN x) c : Int) ≤ 32 := by omega
  have key := cnt_not a
  have hA1 := shl_in a x
  have hA3 := shr_in 4294967295 x (by omega) (by omega)
  have hA4 := shl_in 1 (x % 32)
  by_cases hs : c < 32 - x % 32
  · exact arithBits_small a b x c _ _ _ _ _ _ _ _ _ _ _ _ _ _ (widN (offN x) c : Int) w ⟨a0, a1⟩ ⟨b0, b1⟩ ⟨x0, x1⟩ ⟨c0, c1⟩ rfl (rev_rev a a0 a1) rfl rfl rfl (cnt_rev a) key (cnt_in32 a) (cnt_in32 _) hr hn
      (xor_not a a0 a1) rfl rfl rfl (shl_shr a x a0 a1).symm rfl rfl (shl_mul a x) (by omega) hA1 hA3 hA4
      rfl (put_taken a b x c) rfl rfl rfl (put_back a b x c a0 a1) rfl (signed_taken a x c) (fb201 _ _ _ _) (fb203 _ _ _) (fb203 _ _ _) (fb203 _ _ _) (fb203 _ _ _) (fb201 _ _ _ _) (fb202 _ _ _) (fb203 _ _ _)
      (fi_in201 _ _ _ _) (fi_in203 _ _ _) (fi_in202 _ _ _) (by omega) hs (by unfold widN; omega)
  · have hNe : (widN (offN x) c : Int) = 32 - x % 32 := by unfold widN; omega
    by_cases hl : (widN (offN x) c : Int) < 32
    · exact arithBits_great a b x c _ _ _ _ _ _ _ _ _ _ _ _ _ _ (widN (offN x) c : Int) w ⟨a0, a1⟩ ⟨b0, b1⟩ ⟨x0, x1⟩ ⟨c0, c1⟩ rfl (rev_rev a a0 a1) rfl rfl rfl (cnt_rev a) key (cnt_in32 a) (cnt_in32 _) hr hn
        (xor_not a a0 a1) rfl rfl rfl (shl_shr a x a0 a1).symm rfl rfl (shl_mul a x) (by omega) hA1 hA3 hA4
        rfl (put_taken a b x c) rfl rfl rfl (put_back a b x c a0 a1) rfl (signed_taken a x c) (fb201 _ _ _ _) (fb203 _ _ _) (fb203 _ _ _) (fb203 _ _ _) (fb203 _ _ _) (fb201 _ _ _ _) (fb202 _ _ _) (fb203 _ _ _)
        (fi_in201 _ _ _ _) (fi_in203 _ _ _) (fi_in202 _ _ _) (by omega) hs hNe hl
    · exact arithBits_whole a b x c _ _ _ _ _ _ _ _ _ _ _ _ _ _ (widN (offN x) c : Int) w ⟨a0, a1⟩ ⟨b0, b1⟩ ⟨x0, x1⟩ ⟨c0, c1⟩ rfl (rev_rev a a0 a1) rfl rfl rfl (cnt_rev a) key (cnt_in32 a) (cnt_in32 _) hr hn
        (xor_not a a0 a1) rfl rfl rfl (shl_shr a x a0 a1).symm rfl rfl (shl_mul a x) (by omega) hA1 hA3 hA4
        rfl (put_taken a b x c) rfl rfl rfl (put_back a b x c a0 a1) rfl (signed_taken a x c) (fb201 _ _ _ _) (fb203 _ _ _) (fb203 _ _ _) (fb203 _ _ _) (fb203 _ _ _) (fb201 _ _ _ _) (fb202 _ _ _) (fb203 _ _ _)
        (fi_in201 _ _ _ _) (fi_in203 _ _ _) (fi_in202 _ _ _) (by omega) hs hNe hl (whole_taken b x c b0 b1 (by omega)).symm

end Go.Proofs.Ytbhoimeneekdfaa
