/-
  The law LexText, for a text whose quoted form keeps to the memory's reach: a walk of its body with the contracts of what it calls.
-/
import Derived.WalkSpells
import Derived.WalkMore
import Derived.Laws.StructEq
import Derived.Test.YtccllonkhklldaaProg
import Derived.Test.YtccllonkhklldaaMathY
import Derived.Test.YtccllonkhklldaaLexQuote
import Derived.Test.YtccllonkhklldaaLexTokens
import Derived.Test.YtccllonkhklldaaLaw06Awake
namespace Go.Proofs.Ytccllonkhklldaa
open Go.RowKit
set_option linter.unusedSimpArgs false
set_option maxRecDepth 10000
set_option linter.unusedVariables false

set_option maxHeartbeats 2000000 in
theorem lexText_law (w : World) (s : ByteArray) (hs0 : s.size ≤ 140737488351232) (hs : s.size ≤ 1048576) :
    Calls Try.prog 6 #[.string s] w fun e w' => e = .returned (.bool true) ∧ Below w.heap.size w w' := by
  have hqI : strI (strOfNums (quoteL (strI s))) = quoteL (strI s) := strI_of (quoteL_within (strI_within s))
  have hqs : (strOfNums (quoteL (strI s))).size ≤ 4 * s.size + 2 := by rw [strOfNums_size]; have := quoteL_len (strI s); rw [strI_len] at this; exact this
  have hQ := quote_any s w (by omega)
  have hTT := toks_quoted (strI s) (strI_within s)
  rw [str_of_strI] at hTT
  have HP : Hid (∀ k (h : k < (strOfNums (quoteL (strI s))).size), 32 ≤ ((strOfNums (quoteL (strI s)))[k].toNat : Int) ∧ ((strOfNums (quoteL (strI s)))[k].toNat : Int) ≤ 126) := fun k h => by
    rw [← nth_strI _ k h, hqI]
    have hk : k < (quoteL (strI s)).length := by rw [strOfNums_size] at h; exact h
    have e : nth (quoteL (strI s)) k = (quoteL (strI s))[k] := by simp [nth, List.getD, hk]
    rw [e]; exact quote_print _ (strI_within s) _ (List.getElem_mem hk)
  have hT := fun wx => tokens_any (strOfNums (quoteL (strI s))) wx (by omega)
  rw [hqI, hTT] at hT
  clear hqI hTT
  generalize strOfNums (quoteL (strI s)) = q at *
  go_enter Try.func6, Try.ntmps6
  go_wp2_with fail
  refine hQ.mono ?_
  rintro e w1 ⟨rfl, hb1⟩
  go_wp2_with fail
  refine (hT _).mono ?_
  rintro e w2 ⟨v, rfl, hrow, hb2⟩
  obtain ⟨g, cap, rfl⟩ : ∃ g cap, v = .slice (some ⟨g, 0, none⟩) 1 cap := by
    rcases hrow.2 with ⟨_, h0⟩ | ⟨g, cap, cur, hv, _⟩
    · exact absurd h0 (by simp)
    · exact ⟨g, cap, hv⟩
  have hV := ToksV.ofRow hrow rfl
  have hba := (Below.refl w2.heap.size w2).alloc (Nat.le_refl _) (.cells #[.int .i64 0, .int .i64 0] 31)
  have hV2 := hV.below hba
  obtain ⟨b, off, e1, hlt, c0, c1, c2⟩ := hV2 0 (by simp)
  cases e1
  have c0 : (w2.alloc (.cells #[.int .i64 0, .int .i64 0] 31)).cell? ⟨g, 0, none⟩ = some (.int .u8 4) := c0
  have c1 : (w2.alloc (.cells #[.int .i64 0, .int .i64 0] 31)).cell? ⟨g, 1, none⟩ = some (.string s) := c1
  have c2 : (w2.alloc (.cells #[.int .i64 0, .int .i64 0] 31)).cell? ⟨g, 2, none⟩ = some (.int .i64 0) := c2
  have hbel := (hb1.trans (hb2.mono hb1.size)).trans (hba.mono (Nat.le_trans hb1.size hb2.size))
  have hbox : (w2.alloc (.cells #[.int .i64 0, .int .i64 0] 31)).heap[w2.heap.size]? = some (.cells #[.int .i64 0, .int .i64 0] 31 (0, 0)) := heap_alloc_new w2 _
  have d0 : (w2.alloc (.cells #[.int .i64 0, .int .i64 0] 31)).cell? ⟨w2.heap.size, 0, none⟩ = some (.int .i64 0) := by rw [Lib.cell_of_heap hbox]; rfl
  clear hrow hV hV2 hba hT hQ hb2 hlt hbox
  have hA := awake6_true (w2.alloc (.cells #[.int .i64 0, .int .i64 0] 31))
  simp only [List.length_singleton]
  go_wp2_with fail
  generalize w2.alloc (.cells #[.int .i64 0, .int .i64 0] 31) = W at *
  go_loop [6] (fun i => ∃ k : Nat, k ≤ q.size ∧ i = .int .i64 k) (fun i => q.size - (intOf i).toNat)
  case atStart => exact ⟨0, Nat.zero_le _, rfl⟩
  case round =>
    obtain ⟨k, hk, rfl⟩ := hrel
    by_cases hlt : k < q.size
    · obtain ⟨p1, p2⟩ := HP.out k hlt
      have hc1 : (q[k].toNat : Int) < 256 := by have := q[k].toNat_lt; omega
      have n1 : ¬ (q[k].toNat : Int) < 32 := by omega
      have n2 : ¬ (126 : Int) < (q[k].toNat : Int) := by omega
      clear hA
      go_wp2_with fail
      go_round
      case rel => exact ⟨k + 1, by omega, by go_num⟩
      case measure => simp [intOf]; omega
    · obtain rfl : k = q.size := by omega
      go_wp2_with (go_at_call 11; refine hA.mono ?_; rintro e w3 ⟨rfl, hb3⟩)
      go_ret
      exact ⟨rfl, hbel.trans (hb3.mono hbel.size)⟩

end Go.Proofs.Ytccllonkhklldaa
