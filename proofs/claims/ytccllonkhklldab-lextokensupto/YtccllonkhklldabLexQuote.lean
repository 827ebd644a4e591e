/-
  What Quote of the layer lex returns, for every text whose quoted form keeps to Go's own limit of a length; nothing that was there turns.
-/
import Derived.WalkSpells
import Derived.WalkMore
import Derived.Test.YtccllonkhklldabProg
import Derived.Test.YtccllonkhklldabMathX
import Derived.Test.YtccllonkhklldabLexKinds
import Derived.Test.YtccllonkhklldabLexBuilder
namespace Go.Proofs.Ytccllonkhklldab
open Go.RowKit
set_option maxRecDepth 10000
set_option linter.unusedVariables false
set_option linter.unusedSimpArgs false

theorem esc_quote {c : Int} (h : c = 34 ∨ c = 92) : escL c = [92, c] := by unfold escL; rw [if_pos h]
theorem esc_print {c : Int} (h : ¬ (c = 34 ∨ c = 92)) (h1 : printB c = true) : escL c = [c] := by unfold escL; rw [if_neg h, if_pos h1]
theorem esc_hex {c : Int} (h : ¬ (c = 34 ∨ c = 92)) (h1 : printB c = false) : escL c = [92, 120, hexD (c / 16), hexD (c % 16)] := by unfold escL; rw [if_neg h, if_neg (by simp [h1])]
theorem and15 {c : Int} (h0 : 0 ≤ c) (h1 : c < 256) : bits .and .u8 c 15 = c % 16 := by
  obtain ⟨n, rfl⟩ := Int.eq_ofNat_of_zero_le h0
  have hn : n < 256 := by omega
  have key : ∀ n : Fin 256, bits .and .u8 ((n.val : Nat) : Int) 15 = ((n.val : Nat) : Int) % 16 := by decide +kernel
  exact key ⟨n, hn⟩

set_option maxHeartbeats 2000000 in
theorem quote_any (s : ByteArray) (w : World) (hs : 4 * s.size + 2 ≤ 140737488355328) :
    Calls Try.prog 54 #[.string s] w fun e w' => e = .returned (.string (strOfNums (quoteL (strI s)))) ∧ Below w.heap.size w w' := by
  have HLen := strI_len s
  have HS : Hid (∀ k, k < s.size → (34 :: ((strI s).take (k + 1)).flatMap escL) = (34 :: ((strI s).take k).flatMap escL) ++ escL (nth (strI s) k)) := fun k hk => by
    rw [flat_snoc _ k (by omega)]; rfl
  have HE : Hid ((34 :: ((strI s).take s.size).flatMap escL) ++ [34] = quoteL (strI s)) := by
    show _ = _
    rw [List.take_of_length_le (by omega)]; rfl
  have HW : Hid (Within 256 (quoteL (strI s))) := quoteL_within (strI_within s)
  have HL : Hid (∀ k, k ≤ s.size → (34 :: ((strI s).take k).flatMap escL).length ≤ 4 * k + 1) := fun k hk => by
    have := flat_len ((strI s).take k)
    rw [List.length_take] at this
    simp only [List.length_cons]; omega
  have h0 := bld_new w w.heap.size (Nat.le_refl _)
  have b0 : Below w.heap.size w (w.alloc (.cells #[.pointer none, .slice none 0 0] 59)) := (Below.refl _ w).alloc (Nat.le_refl _) _
  have hW0 := writeByte_any w.heap.size w.heap.size [] 34 _ h0 (by simp) b0.size
  clear h0 HLen
  go_enter Try.func54, Try.ntmps54
  go_wp2_with fail
  refine hW0.mono ?_
  rintro e w1 ⟨rfl, h1, b1, _⟩
  have bel1 := b0.trans b1
  clear hW0 b0 b1
  go_wp2_with fail
  go_loopw [9] (fun i wr => ∃ k : Nat, k ≤ s.size ∧ i = .int .i64 k ∧ Bld w.heap.size w.heap.size (34 :: ((strI s).take k).flatMap escL) wr ∧ Below w.heap.size w wr) (fun i _ => s.size - (intOf i).toNat)
  case atStart => exact ⟨0, Nat.zero_le _, rfl, h1, bel1⟩
  case round =>
    obtain ⟨k, hk, rfl, hB, hbel⟩ := hrel
    have hl := HL.out k hk
    have hsz := hbel.size
    clear h1 bel1
    by_cases hlt : k < s.size
    · have hc0 : (0 : Int) ≤ (s[k].toNat : Int) := by omega
      have hc1 : (s[k].toNat : Int) < 256 := by have := s[k].toNat_lt; omega
      have hP := fun wx => printable_any (s[k].toNat : Int) wx hc0 hc1
      have eS := HS.out k hlt
      rw [nth_strI s k hlt] at eS
      have ES : Hid ((34 :: ((strI s).take (k + 1)).flatMap escL) = (34 :: ((strI s).take k).flatMap escL) ++ escL (s[k].toNat : Int)) := eS
      clear eS
      generalize (34 :: ((strI s).take k).flatMap escL) = zs at hB hl ES
      by_cases hq : (s[k].toNat : Int) = 34 ∨ (s[k].toNat : Int) = 92
      · rw [esc_quote hq] at ES
        have hW1 := writeByte_any w.heap.size w.heap.size zs 92 wr hB (by omega) hsz
        rcases hq with hq | hq
        · have hq' : ((s[k].toNat : Int) == 34) = true := by simpa using hq
          rw [hq] at ES
          clear hP hB
          go_wp2_with fail
          refine hW1.mono ?_
          rintro e w1 ⟨rfl, h1, b1, _⟩
          have hW2 := writeByte_any w.heap.size w.heap.size (zs ++ [92]) 34 w1 h1 (by simp; omega) (Nat.le_trans hsz b1.size)
          go_wp2_with fail
          refine hW2.mono ?_
          rintro e w2 ⟨rfl, h2, b2, _⟩
          go_wp2_with fail
          go_roundw
          case rel => exact ⟨k + 1, by omega, by go_num, by rw [ES.out]; simpa using h2, (hbel.trans b1).trans b2⟩
          case measure => simp [intOf]; omega
        · have hq' : ((s[k].toNat : Int) == 34) = false := by rw [hq]; rfl
          have hq2 : ((s[k].toNat : Int) == 92) = true := by simpa using hq
          rw [hq] at ES
          clear hP hB
          go_wp2_with fail
          refine hW1.mono ?_
          rintro e w1 ⟨rfl, h1, b1, _⟩
          have hW2 := writeByte_any w.heap.size w.heap.size (zs ++ [92]) 92 w1 h1 (by simp; omega) (Nat.le_trans hsz b1.size)
          go_wp2_with fail
          refine hW2.mono ?_
          rintro e w2 ⟨rfl, h2, b2, _⟩
          go_wp2_with fail
          go_roundw
          case rel => exact ⟨k + 1, by omega, by go_num, by rw [ES.out]; simpa using h2, (hbel.trans b1).trans b2⟩
          case measure => simp [intOf]; omega
      · have hq1 : ((s[k].toNat : Int) == 34) = false := by simpa using fun e => hq (.inl e)
        have hq2 : ((s[k].toNat : Int) == 92) = false := by simpa using fun e => hq (.inr e)
        cases hp : printB (s[k].toNat : Int)
        · rw [esc_hex hq hp] at ES
          rw [hp] at hP
          have hd1 := fun wx => hexDigit_any ((s[k].toNat : Int) / 16) wx (by omega) (by omega)
          have hd2 := fun wx => hexDigit_any ((s[k].toNat : Int) % 16) wx (by omega) (by omega)
          have ha := and15 hc0 hc1
          have hW1 := writeString_any w.heap.size w.heap.size zs { data := #[92, 120] } wr hB (by show _ + 2 ≤ _; omega) hsz
          rw [show strI { data := #[92, 120] } = [92, 120] from rfl] at hW1
          have D1 : Hid ((if (s[k].toNat : Int) / 16 < 10 then 48 + (s[k].toNat : Int) / 16 else 87 + (s[k].toNat : Int) / 16) = hexD ((s[k].toNat : Int) / 16)) := rfl
          have D2 : Hid ((if (s[k].toNat : Int) % 16 < 10 then 48 + (s[k].toNat : Int) % 16 else 87 + (s[k].toNat : Int) % 16) = hexD ((s[k].toNat : Int) % 16)) := rfl
          rw [D1.out] at hd1
          rw [D2.out] at hd2
          clear hq hp hB D1 D2
          generalize hexD ((s[k].toNat : Int) / 16) = d1 at *
          generalize hexD ((s[k].toNat : Int) % 16) = d2 at *
          go_wp2_with fail
          refine (hP _).mono ?_
          rintro e w' ⟨rfl, rfl⟩
          go_wp2_with fail
          refine hW1.mono ?_
          rintro e w1 ⟨rfl, h1, b1, _⟩
          have s1 := Nat.le_trans hsz b1.size
          go_wp2_with fail
          refine (hd1 _).mono ?_
          rintro e w' ⟨rfl, rfl⟩
          have hW2 := writeByte_any w.heap.size w.heap.size (zs ++ [92, 120]) d1 w1 h1 (by simp; omega) s1
          go_wp2_with fail
          refine hW2.mono ?_
          rintro e w2 ⟨rfl, h2, b2, _⟩
          go_wp2_with fail
          refine (hd2 _).mono ?_
          rintro e w' ⟨rfl, rfl⟩
          have hW3 := writeByte_any w.heap.size w.heap.size (zs ++ [92, 120] ++ [d1]) d2 w2 h2 (by simp; omega) (Nat.le_trans s1 b2.size)
          go_wp2_with fail
          refine hW3.mono ?_
          rintro e w3 ⟨rfl, h3, b3, _⟩
          go_wp2_with fail
          go_roundw
          case rel => exact ⟨k + 1, by omega, by go_num, by rw [ES.out]; simpa using h3, ((hbel.trans b1).trans b2).trans b3⟩
          case measure => simp [intOf]; omega
        · rw [esc_print hq hp] at ES
          rw [hp] at hP
          have hW1 := writeByte_any w.heap.size w.heap.size zs (s[k].toNat : Int) wr hB (by omega) hsz
          clear hq hp hB
          go_wp2_with fail
          refine (hP _).mono ?_
          rintro e w' ⟨rfl, rfl⟩
          go_wp2_with fail
          refine hW1.mono ?_
          rintro e w1 ⟨rfl, h1, b1, _⟩
          go_wp2_with fail
          go_roundw
          case rel => exact ⟨k + 1, by omega, by go_num, by rw [ES.out]; exact h1, hbel.trans b1⟩
          case measure => simp [intOf]; omega
    · obtain rfl : k = s.size := by omega
      have hW1 := writeByte_any w.heap.size w.heap.size _ 34 wr hB (by omega) hsz
      rw [HE.out] at hW1
      clear hB
      go_wp2_with fail
      refine hW1.mono ?_
      rintro e w1 ⟨rfl, h1, b1, _⟩
      have hW2 := buildString_any w.heap.size w.heap.size _ w1 h1 HW.out (Nat.le_trans hsz b1.size)
      clear hW1 h1
      go_wp2_with fail
      refine hW2.mono ?_
      rintro e w2 ⟨rfl, h2, b2, _⟩
      clear hW2 h2
      go_wp2_with fail
      go_ret
      exact ⟨rfl, (hbel.trans b1).trans b2⟩

end Go.Proofs.Ytccllonkhklldab
