/-
  What Turned of the document's answer returns, for every word: its bytes the other way round; nothing that was there has turned.
-/
import Derived.WalkSpells
import Derived.Test.YtmmpejhmmgkfkaaProg
import Derived.Test.YtmmpejhmmgkfkaaMath
import Derived.Test.YtmmpejhmmgkfkaaRef01Byte
namespace Go.Proofs.Ytmmpejhmmgkfkaa
open Go.RowKit

set_option maxHeartbeats 400000 in
theorem refTurned_any (x : Int) (w : World) (hx : 0 ≤ x) (hx2 : x < 4294967296) :
    Calls Try.prog 18 #[.int .u32 x] w fun e w' => e = .returned (.int .u32 (turnI x)) ∧ w' = w.alloc (.cells #[.int .u32 x] 33) := by
  have hmk : ∀ w, (Instr.makeSlice 23 (.int .i64 1) (.int .i64 1)).run Try.prog w = .ok (.slice (some ⟨w.heap.size, 0, none⟩) 1 1) (w.alloc (.cells #[.int .u32 0] 33)) := fun _ => by kernel_rfl
  have hv0 : View .u32 (w.alloc (.cells #[.int .u32 x] 33)) (some ⟨w.heap.size, 0, none⟩) [x] := row_one (by simp)
  have c0 := refByte_nat (some ⟨w.heap.size, 0, none⟩) 1 1 [x] _ 0 hv0 rfl (within_one hx hx2) (by omega) (by omega)
  have c1 := refByte_nat (some ⟨w.heap.size, 0, none⟩) 1 1 [x] _ 1 hv0 rfl (within_one hx hx2) (by omega) (by omega)
  have c2 := refByte_nat (some ⟨w.heap.size, 0, none⟩) 1 1 [x] _ 2 hv0 rfl (within_one hx hx2) (by omega) (by omega)
  have c3 := refByte_nat (some ⟨w.heap.size, 0, none⟩) 1 1 [x] _ 3 hv0 rfl (within_one hx hx2) (by omega) (by omega)
  have e0 : nth (joinL [x]) 0 = byt x 0 := rfl
  have e1 : nth (joinL [x]) 1 = byt x 1 := rfl
  have e2 : nth (joinL [x]) 2 = byt x 2 := rfl
  have e3 : nth (joinL [x]) 3 = byt x 3 := rfl
  rw [e0] at c0
  rw [e1] at c1
  rw [e2] at c2
  rw [e3] at c3
  clear e0 e1 e2 e3 hv0
  have l0 := byt_lo x 0
  have u0 := byt_hi x 0
  have l1 := byt_lo x 1
  have u1 := byt_hi x 1
  have l2 := byt_lo x 2
  have u2 := byt_hi x 2
  have l3 := byt_lo x 3
  have u3 := byt_hi x 3
  have HT : Hid (turnI x = byt x 0 * 16777216 + byt x 1 * 65536 + byt x 2 * 256 + byt x 3) := rfl
  generalize byt x 0 = b0 at *
  generalize byt x 1 = b1 at *
  generalize byt x 2 = b2 at *
  generalize byt x 3 = b3 at *
  go_enter Try.func18, Try.ntmps18
  go_wp2
  refine wp_loop_rounds 5 ?_
  rw [rounds_succ]
  go_wp2_with fail
  refine c0.mono ?_
  rintro e w' ⟨rfl, rfl⟩
  go_wp2
  rw [rounds_succ]
  go_wp2_with fail
  refine c1.mono ?_
  rintro e w' ⟨rfl, rfl⟩
  go_wp2
  rw [rounds_succ]
  go_wp2_with fail
  refine c2.mono ?_
  rintro e w' ⟨rfl, rfl⟩
  go_wp2
  rw [rounds_succ]
  go_wp2_with fail
  refine c3.mono ?_
  rintro e w' ⟨rfl, rfl⟩
  go_wp2
  rw [rounds_succ]
  go_wp2
  go_ret
  exact ⟨ret_int (by rw [HT.out]; omega), rfl⟩

end Go.Proofs.Ytmmpejhmmgkfkaa
