/-
  awake of the statements of layer 6 returns true; nothing that was there turns.
-/
import Derived.WalkSpells
import Derived.WalkMore
import Derived.Test.YtccllonkhklldabProg
import Derived.Test.YtccllonkhklldabLexWrite
import Derived.Test.YtccllonkhklldabLexTokens
namespace Go.Proofs.Ytccllonkhklldab
open Go.RowKit
set_option maxRecDepth 100000
set_option linter.unusedVariables false
set_option linter.unusedSimpArgs false

def awkS : ByteArray := { data := #[37, 53, 32, 61, 32, 79, 112, 73, 65, 100, 100, 32, 45, 49, 32, 34, 97, 34, 32, 59, 32, 98] }
def awkL : List TokT := [(2, { data := #[53] }, 0), (5, { data := #[61] }, 3), (1, { data := #[79, 112, 73, 65, 100, 100] }, 5), (3, { data := #[45, 49] }, 12), (4, { data := #[97] }, 15)]
theorem awk_toks : toksP (strI awkS) 0 = (awkL, 0, 0) := by decide +kernel
theorem awk_write : wErr awkL = 0 ∧ strOfNums (wOut awkL) = { data := #[37, 53, 32, 61, 32, 79, 112, 73, 65, 100, 100, 32, 45, 49, 32, 34, 97, 34] } := by decide +kernel
theorem awk_in : ToksIn awkL := by
  intro j hj
  match j, hj with
  | 0, _ => exact ⟨by decide, by decide, by decide, by decide, by decide⟩
  | 1, _ => exact ⟨by decide, by decide, by decide, by decide, by decide⟩
  | 2, _ => exact ⟨by decide, by decide, by decide, by decide, by decide⟩
  | 3, _ => exact ⟨by decide, by decide, by decide, by decide, by decide⟩
  | 4, _ => exact ⟨by decide, by decide, by decide, by decide, by decide⟩

set_option maxHeartbeats 2000000 in
theorem awake6_true (w : World) : Calls Try.prog 12 #[] w fun e w' => e = .returned (.bool true) ∧ Below w.heap.size w w' := by
  have hT := tokens_any awkS w (by decide)
  rw [awk_toks] at hT
  unfold awkS at hT
  go_enter Try.func12, Try.ntmps12
  go_wp2_with fail
  refine hT.mono ?_
  rintro e w1 ⟨v, rfl, hrow, hb1⟩
  obtain ⟨g, cap, rfl⟩ : ∃ g cap, v = .slice (some ⟨g, 0, none⟩) 5 cap := by
    rcases hrow.2 with ⟨_, h0⟩ | ⟨g, cap, cur, hv, _⟩
    · exact absurd h0 (by decide)
    · exact ⟨g, cap, hv⟩
  have hV := ToksV.ofRow hrow rfl
  have hba := (Below.refl w1.heap.size w1).alloc (Nat.le_refl _) (.cells #[.int .i64 0, .int .i64 0] 25)
  have hV2 := hV.below hba
  have hW := write_any (some ⟨g, 0, none⟩) 5 cap awkL _ hV2 rfl awk_in (by decide)
  rw [awk_write.1, awk_write.2] at hW
  obtain ⟨b, off, e1, hlt, c0, c1, c2⟩ := hV2 2 (by decide)
  cases e1
  have c0 : (w1.alloc (.cells #[.int .i64 0, .int .i64 0] 25)).cell? ⟨g, 6, none⟩ = some (.int .u8 1) := c0
  have c1 : (w1.alloc (.cells #[.int .i64 0, .int .i64 0] 25)).cell? ⟨g, 7, none⟩ = some (.string { data := #[79, 112, 73, 65, 100, 100] }) := c1
  have c2 : (w1.alloc (.cells #[.int .i64 0, .int .i64 0] 25)).cell? ⟨g, 8, none⟩ = some (.int .i64 5) := c2
  have hb2 := hb1.trans (hba.mono hb1.size)
  clear hT hrow hV hV2 hba
  have l1 : ByteArray.toList { data := #[79, 112, 73, 65, 100, 100] } = [79, 112, 73, 65, 100, 100] := by rw [ByteArray.toList_eq]
  have l2 : ByteArray.toList { data := #[37, 53, 32, 61, 32, 79, 112, 73, 65, 100, 100, 32, 45, 49, 32, 34, 97, 34] } = [37, 53, 32, 61, 32, 79, 112, 73, 65, 100, 100, 32, 45, 49, 32, 34, 97, 34] := by rw [ByteArray.toList_eq]
  simp only [show awkL.length = 5 from rfl]
  go_wp2_with fail
  refine hW.mono ?_
  rintro e w2 ⟨rfl, hb3⟩
  clear hW c0 c1 c2
  go_wp2_with fail
  go_ret
  exact ⟨rfl, hb2.trans (hb3.mono hb2.size)⟩

end Go.Proofs.Ytccllonkhklldab
