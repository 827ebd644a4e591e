/-
  The law LexDigits: a walk of its body with the contracts of what it calls.
-/
import Derived.WalkSpells
import Derived.WalkMore
import Derived.Laws.StructEq
import Derived.Laws.BytesArg
import Derived.Test.YtccllonkhklldaaProg
import Derived.Test.YtccllonkhklldaaMathY
import Derived.Test.YtccllonkhklldaaLexNumber
import Derived.Test.YtccllonkhklldaaRef06Number
import Derived.Test.YtccllonkhklldaaLexTokens
import Derived.Test.YtccllonkhklldaaLaw06Awake
namespace Go.Proofs.Ytccllonkhklldaa
open Go.RowKit
set_option linter.unusedSimpArgs false
set_option maxRecDepth 10000
set_option linter.unusedVariables false

/-- A number in digits. -/
def decL (n : Nat) : List Int := if n ≤ 9 then [48 + (n : Int)] else decL (n / 10) ++ [48 + ((n % 10 : Nat) : Int)]
termination_by n
decreasing_by omega

theorem decL_small {n : Nat} (h : n ≤ 9) : decL n = [48 + (n : Int)] := by rw [decL, if_pos h]
theorem decL_big {n : Nat} (h : ¬ n ≤ 9) : decL n = decL (n / 10) ++ [48 + ((n % 10 : Nat) : Int)] := by rw [decL, if_neg h]
theorem dv_dec (d : Nat) (h : d ≤ 9) : dvI (48 + (d : Int)) = d ∧ digitB (48 + (d : Int)) = true := by
  have hd : digitB (48 + (d : Int)) = true := by simp [digitB]; omega
  refine ⟨?_, hd⟩
  rw [dv_of_digit hd]; omega
theorem decL_facts : ∀ n : Nat, valF 10 0 (decL n) = n ∧ allD 10 (decL n) = true ∧ (0 < (decL n).length) ∧ (1 ≤ n → nth (decL n) 0 ≠ 48) ∧ (1 < (decL n).length → 9 < n) ∧ Within 256 (decL n) := by
  intro n
  induction n using Nat.strongRecOn with
  | _ n ih =>
    by_cases h : n ≤ 9
    · obtain ⟨d1, d2⟩ := dv_dec n h
      rw [decL_small h]
      refine ⟨?_, ?_, by simp, ?_, by simp, within_one (by omega) (by omega)⟩
      · simp [valF, d1]
      · simp [allD, d1]; omega
      · intro h1; simp [nth]; omega
    · obtain ⟨i1, i2, i3, i4, i5, i6⟩ := ih (n / 10) (by omega)
      obtain ⟨d1, d2⟩ := dv_dec (n % 10) (by omega)
      rw [decL_big h]
      refine ⟨?_, ?_, by simp, ?_, fun _ => by omega, within_append i6 (within_one (by omega) (by omega))⟩
      · rw [valF_snoc, i1, d1]; omega
      · simp only [allD, List.all_append, Bool.and_eq_true] at i2 ⊢
        exact ⟨i2, by simp only [List.all_cons, List.all_nil, Bool.and_true, decide_eq_true_eq]; rw [d1]; omega⟩
      · intro _
        rw [getD_left _ _ _ i3]
        exact i4 (by omega)
theorem decL_len : ∀ (k n : Nat), n < 10 ^ (k + 1) → (decL n).length ≤ k + 1 := by
  intro k
  induction k with
  | zero => intro n h; rw [decL_small (by omega)]; simp
  | succ k ih =>
    intro n h
    by_cases h9 : n ≤ 9
    · rw [decL_small h9]; simp
    · rw [decL_big h9, List.length_append]
      have := ih (n / 10) (by rw [Nat.pow_succ] at h; omega)
      simp; omega
theorem decL_plain {n : Nat} (h : n < 4294967296) : plainB (decL n) = true := by
  obtain ⟨h1, h2, h3, h4, h5, _⟩ := decL_facts n
  have e : (decide (1 < (decL n).length) && nth (decL n) 0 == 48) = false := by
    cases e : (decide (1 < (decL n).length) && nth (decL n) 0 == 48)
    · rfl
    · simp at e
      exact absurd e.2 (h4 (by have := h5 e.1; omega))
  have e2 : (decL n).isEmpty = false := by
    cases e : decL n with
    | nil => rw [e] at h3; simp at h3
    | cons a r => rfl
  simp only [plainB, digsB, e, e2, h1, h2]
  simp; omega

set_option maxHeartbeats 2000000 in
theorem digits_any (n : Nat) (w : World) (hn : n < 4294967296) :
    Calls Try.prog 12 #[.int .u32 n] w fun e w' => e = .returned (.string (strOfNums (decL n))) ∧ Below w.heap.size w w' := by
  have HEND : Hid (∀ (m : Nat) (t : ByteArray), m ≤ 9 → decL n = decL m ++ strI t → strOfNums [48 + (m : Int)] ++ t = strOfNums (decL n)) := fun m t h e => by
    rw [e, decL_small h, strOfNums_append, str_of_strI]
  have HSTEP : Hid (∀ (m : Nat) (t : ByteArray), ¬ m ≤ 9 → decL n = decL m ++ strI t → decL n = decL (m / 10) ++ strI (strOfNums [48 + (m : Int) % 10] ++ t)) := fun m t h e => by
    rw [e, decL_big h, show ((m % 10 : Nat) : Int) = (m : Int) % 10 by omega, strI_append, strI_of (within_one (by omega) (by omega)), List.append_assoc]
  go_enter Try.func12, Try.ntmps12
  go_wp2_with fail
  go_loopw [0, 3] (fun v t wr => ∃ (m : Nat) (u : ByteArray), v = .int .u32 m ∧ t = .string u ∧ m < 4294967296 ∧ decL n = decL m ++ strI u ∧ Below w.heap.size w wr) (fun v _ _ => (intOf v).toNat)
  case atStart => exact ⟨n, ⟨#[]⟩, rfl, rfl, hn, by simp [strI], Below.refl _ _⟩
  case round =>
    obtain ⟨m, u, rfl, rfl, hm, he, hb⟩ := hrel
    have hu : u.size ≤ 10 := by
      have h1 := congrArg List.length he
      have h2 := decL_len 9 n (by omega)
      rw [List.length_append, strI_len] at h1
      omega
    have hcv : ∀ c : Int, (convert 53 9 (.slice (some ⟨wr.heap.size, 0, none⟩) 1 1)).run Try.prog (wr.alloc (.cells #[.int .u8 c] 5)) = .ok (.string (strOfNums [c])) (wr.alloc (.cells #[.int .u8 c] 5)) := fun c =>
      run_convert_bytes_arg _ _ _ Try.underlying53 Try.underlying5 wr.heap.size 0 1 1 [c] rfl (fun i hi => by
        obtain rfl : i = 0 := by omega
        have := heap_alloc_new wr (.cells #[.int .u8 c] 5)
        rw [Lib.cell_of_heap this]; rfl) _ Try.underlying9
    have hba : ∀ o, Below w.heap.size w (wr.alloc o) := fun o => hb.alloc hb.size o
    by_cases h9 : m ≤ 9
    · have HE := hid1 (HEND.out m u h9 he)
      have hd : ¬ (9 : Int) < (m : Int) := by omega
      have hcv2 := hcv (48 + (m : Int))
      have hsz1 : (strOfNums [48 + (m : Int)]).size = 1 := rfl
      have HB := hid1 (hba (.cells #[.int .u8 (48 + (m : Int))] 5))
      clear hcv he hb hba
      go_wp2_with fail
      go_ret
      exact ⟨by rw [← HE.out]; rfl, HB.out⟩
    · have HE := hid1 (HSTEP.out m u h9 he)
      have hd : (9 : Int) < (m : Int) := by omega
      have hcv2 := hcv (48 + (m : Int) % 10)
      have hsz1 : (strOfNums [48 + (m : Int) % 10]).size = 1 := rfl
      have HB := hid1 (hba (.cells #[.int .u8 (48 + (m : Int) % 10)] 5))
      clear hcv he hb hba
      go_wp2_with fail
      go_roundw
      case rel => exact ⟨m / 10, strOfNums [48 + (m : Int) % 10] ++ u, by rw [show ((m / 10 : Nat) : Int) = (m : Int) / 10 by omega], rfl, by omega, HE.out, HB.out⟩
      case measure => simp [intOf]; omega

theorem toks_bad (D : List Int) (hD : plainB D = true) (hw : Within 256 D) : toksP (37 :: D ++ 32 :: 48 :: D) 0 = ([], 62, (D.length : Int) + 2) := by
  obtain ⟨h1, h2, h3⟩ := tok_read (k := 2) (t := D) (rest := 32 :: 48 :: D) hD hw rfl
  have hp := plain_all hD
  have es : tokS 2 D = 37 :: D := rfl
  rw [es] at h1 h2 h3
  have hl : 0 < D.length := List.length_pos_iff.2 hp.1
  have e1 : toksP (48 :: D) 0 = ([], 62, 0) := by
    have h0 : nth (48 :: D) 0 = 48 := rfl
    have hE : runE (48 :: D) 1 = (48 :: D).length := runE_spec (by simp) (by simp) (fun i hi hk => by
      have := hp.2 (i - 1) (by simp at hk; omega)
      have e : nth (48 :: D) i = nth D (i - 1) := by
        obtain ⟨j, rfl⟩ : ∃ j, i = j + 1 := ⟨i - 1, by omega⟩
        simp [nth, List.getD]
      rw [e]; exact digit_run this) (.inl rfl)
    have hc : cutL (48 :: D) 0 (48 :: D).length = 48 :: D := by simp [cutL]
    have hn : numB (48 :: D) = false := by
      have d0 := hp.2 0 hl
      have t1 : ¬ (48 :: D).take 1 = [45] := by simp
      have t2 : ¬ (48 :: D).take 2 = [48, 120] := by
        cases D with
        | nil => simp at hl
        | cons a r =>
          have d0 : digitB a = true := d0
          simp
          intro e; subst e
          exact absurd d0 (by decide)
      rw [(num_plain t1 t2).1]
      exact plain_zero (by simp; omega) rfl
    exact toksP_err (by simp) (by rw [h0]; decide) (by rw [h0]; rfl) (by unfold tokP; rw [h0, if_neg (by decide), if_neg (by decide), if_pos (by decide), Nat.zero_add, hE, hc, if_neg (by simp [hn])])
  have e2 : toksP (32 :: 48 :: D) 0 = ([], 62, 1) := by
    have := toks_blanks 1 (48 :: D)
    rw [e1] at this
    exact this
  have hs := toks_shift (37 :: D) (32 :: 48 :: D) 0
  rw [Nat.add_zero, e2] at hs
  rw [toksP_tok (by simp) h3 h2 h1, hs]
  simp [consR, shiftR]; omega

set_option maxHeartbeats 4000000 in
theorem lexDigits_law (w : World) (a : Int) (ha : (Lit.int .u32 a).wf = true) :
    Calls Try.prog 4 #[.int .u32 a] w fun e w' => e = .returned (.bool true) ∧ Below w.heap.size w w' := by
  have hab := bounds_u32 ha
  obtain ⟨n, rfl⟩ := Int.eq_ofNat_of_zero_le (show 0 ≤ a by omega)
  have hn : n < 4294967296 := by omega
  clear ha
  obtain ⟨f1, f2, f3, f4, f5, f6⟩ := decL_facts n
  have hpl := decL_plain hn
  have hlen := decL_len 9 n (by omega)
  have hsI : strI (strOfNums (decL n)) = decL n := strI_of f6
  have hss : (strOfNums (decL n)).size = (decL n).length := strOfNums_size _
  have hDG := digits_any n w hn
  obtain ⟨p1, p2⟩ := plain_num hpl
  have hN1 := fun wx => lexNumber_any (strOfNums (decL n)) wx (by omega)
  rw [hsI, show numOut (decL n) = n by rw [numOut, if_pos p1, p2, f1], show numErr (decL n) = 0 by rw [numErr, if_pos p1]] at hN1
  have hm : strI ({ data := #[45] } ++ strOfNums (decL n)) = 45 :: decL n := by rw [strI_append, hsI]; rfl
  have hN2 := fun wx => lexNumber_any ({ data := #[45] } ++ strOfNums (decL n)) wx (by rw [ByteArray.size_append, hss]; show 1 + _ ≤ _; omega)
  rw [hm] at hN2
  have hmB : numB (45 :: decL n) = decide (1 ≤ (n : Int) ∧ (n : Int) ≤ 2147483648) := by
    rw [(num_neg (l := 45 :: decL n) (by simp)).1]
    simp only [List.drop_succ_cons, List.drop_zero]
    rw [hpl, f1]; rfl
  have hmV : numV (45 :: decL n) = 4294967296 - n := by
    rw [(num_neg (l := 45 :: decL n) (by simp)).2]
    simp only [List.drop_succ_cons, List.drop_zero]
    rw [f1]
  have hT1 := fun wx => tokens_any ({ data := #[37] } ++ strOfNums (decL n) ++ { data := #[32, 48] } ++ strOfNums (decL n)) wx (by rw [ByteArray.size_append, ByteArray.size_append, ByteArray.size_append, hss]; show 32 * (1 + _ + 2 + _) + 64 ≤ _; omega)
  have hb1 : strI ({ data := #[37] } ++ strOfNums (decL n) ++ { data := #[32, 48] } ++ strOfNums (decL n)) = 37 :: decL n ++ 32 :: 48 :: decL n := by
    rw [strI_append, strI_append, strI_append, hsI]
    show [37] ++ _ ++ [32, 48] ++ _ = _
    simp
  rw [hb1, toks_bad _ hpl f6] at hT1
  have hT2 := fun wx => tokens_any ({ data := #[37] } ++ strOfNums (decL n)) wx (by rw [ByteArray.size_append, hss]; show 32 * (1 + _) + 64 ≤ _; omega)
  have hb2 : strI ({ data := #[37] } ++ strOfNums (decL n)) = 37 :: decL n := by rw [strI_append, hsI]; rfl
  have hw2 := toks_written [(2, strOfNums (decL n), 0)] (by simp only [wOk, List.all_cons, List.all_nil, Bool.and_true]; rw [hsI]; exact hpl)
  have hw3 : (wAll [(2, strOfNums (decL n), 0)]).drop 1 = 37 :: decL n := by simp only [wAll, List.flatMap_cons, List.flatMap_nil]; rw [hsI]; simp [tokS]
  rw [hw3] at hw2
  rw [hb2, hw2] at hT2
  have hA := fun wx => awake6_true wx
  have hz1 : (ByteArray.size { data := #[45] }) = 1 := rfl
  have hz2 : (ByteArray.size { data := #[37] }) = 1 := rfl
  have hz3 : (ByteArray.size { data := #[32, 48] }) = 2 := rfl
  clear hb1 hb2 hw2 hw3 hm hpl f1 f2 f3 f4 f5 f6 p1 p2 hsI
  have hlen' : (strOfNums (decL n)).size ≤ 10 := by omega
  rw [← hss] at hT1
  clear hss hlen
  generalize strOfNums (decL n) = s at *
  go_enter Try.func4, Try.ntmps4
  go_wp2_with fail
  refine hDG.mono ?_
  rintro e w1 ⟨rfl, hbl1⟩
  clear hDG
  go_wp2_with fail
  refine (hN1 _).mono ?_
  rintro e w' ⟨rfl, rfl⟩
  clear hN1
  by_cases h1 : 1 ≤ (n : Int)
  · by_cases h2 : (n : Int) ≤ 2147483648
    · rw [show numOut (45 :: decL n) = 4294967296 - n by rw [numOut, hmB, if_pos (by simp; omega), hmV], show numErr (45 :: decL n) = 0 by rw [numErr, hmB, if_pos (by simp; omega)]] at hN2
      have hz : (4294967296 - (n : Int) + (n : Int)) % 4294967296 = 0 := by omega
      clear hmB hmV
      go_wp2_with fail
      refine (hN2 _).mono ?_
      rintro e w' ⟨rfl, rfl⟩
      clear hN2
      go_wp2_with fail
      refine (hT1 _).mono ?_
      rintro e w2 ⟨v1, rfl, hrow1, hbl2⟩
      obtain ⟨a1, k1, rfl⟩ : ∃ a k, v1 = .slice a 0 k := by
        rcases hrow1.2 with ⟨rfl, _⟩ | ⟨g, cap, cur, hv, _⟩
        · exact ⟨_, _, rfl⟩
        · exact ⟨_, _, hv⟩
      have hbx1 := heap_alloc_new w2 (.cells #[.int .i64 62, .int .i64 ((s.size : Int) + 2)] 31)
      have hbw1 := (hbl1.trans (hbl2.mono hbl1.size)).alloc (Nat.le_trans hbl1.size hbl2.size) (.cells #[.int .i64 62, .int .i64 ((s.size : Int) + 2)] 31)
      have hlx1 : w2.heap.size < (w2.alloc (.cells #[.int .i64 62, .int .i64 ((s.size : Int) + 2)] 31)).heap.size := by simp
      clear hrow1 hbl2 hT1
      go_wp2_with fail
      generalize w2.alloc (.cells #[.int .i64 62, .int .i64 ((s.size : Int) + 2)] 31) = W2 at hbx1 hbw1 hlx1 ⊢
      refine (hT2 _).mono ?_
      rintro e w3 ⟨v2, rfl, hrow2, hbl3⟩
      obtain ⟨g, cap, rfl⟩ : ∃ g cap, v2 = .slice (some ⟨g, 0, none⟩) 1 cap := by
        rcases hrow2.2 with ⟨_, h0⟩ | ⟨g, cap, cur, hv, _⟩
        · exact absurd h0 (by simp [placed])
        · exact ⟨g, cap, hv⟩
      have hV := ToksV.ofRow hrow2 rfl
      have hba := (Below.refl w3.heap.size w3).alloc (Nat.le_refl _) (.cells #[.int .i64 0, .int .i64 0] 31)
      have hV2 := hV.below hba
      obtain ⟨b, off, e1, hlt, c0, c1, c2⟩ := hV2 0 (by simp [placed])
      cases e1
      have c0 : (w3.alloc (.cells #[.int .i64 0, .int .i64 0] 31)).cell? ⟨g, 0, none⟩ = some (.int .u8 2) := c0
      have c1 : (w3.alloc (.cells #[.int .i64 0, .int .i64 0] 31)).cell? ⟨g, 1, none⟩ = some (.string s) := c1
      have c2 : (w3.alloc (.cells #[.int .i64 0, .int .i64 0] 31)).cell? ⟨g, 2, none⟩ = some (.int .i64 0) := c2
      have hbw3 := (hbw1.trans (hbl3.mono hbw1.size)).trans (hba.mono (Nat.le_trans hbw1.size hbl3.size))
      have hbox := heap_alloc_new w3 (.cells #[.int .i64 0, .int .i64 0] 31)
      have d0 : (w3.alloc (.cells #[.int .i64 0, .int .i64 0] 31)).cell? ⟨w3.heap.size, 0, none⟩ = some (.int .i64 0) := by rw [Lib.cell_of_heap hbox]; rfl
      have hbx3 : (w3.alloc (.cells #[.int .i64 0, .int .i64 0] 31)).heap[w2.heap.size]? = _ := (hba.block _ (Nat.lt_of_lt_of_le hlx1 hbl3.size)).trans ((hbl3.block _ hlx1).trans hbx1)
      have d1 : (w3.alloc (.cells #[.int .i64 0, .int .i64 0] 31)).cell? ⟨w2.heap.size, 0, none⟩ = some (.int .i64 62) := by rw [Lib.cell_of_heap hbx3]; rfl
      have d2 : (w3.alloc (.cells #[.int .i64 0, .int .i64 0] 31)).cell? ⟨w2.heap.size, 1, none⟩ = some (.int .i64 ((s.size : Int) + 2)) := by rw [Lib.cell_of_heap hbx3]; rfl
      have hAw := hA (w3.alloc (.cells #[.int .i64 0, .int .i64 0] 31))
      clear hrow2 hV hV2 hba hbl3 hlt hbox hbx1 hbx3 hbw1 hT2 hlx1 hA
      simp only [show (placed 0 [(2, s, 0)]).length = 1 from rfl]
      go_wp2_with (go_at_call 11; refine hAw.mono ?_; rintro e w4 ⟨rfl, hb4⟩)
      go_ret
      exact ⟨rfl, hbw3.trans (hb4.mono hbw3.size)⟩
    · rw [show numOut (45 :: decL n) = 0 by rw [numOut, hmB, if_neg (by simp; omega)], show numErr (45 :: decL n) = 62 by rw [numErr, hmB, if_neg (by simp; omega)]] at hN2
      clear hmB hmV
      go_wp2_with fail
      refine (hN2 _).mono ?_
      rintro e w' ⟨rfl, rfl⟩
      clear hN2
      go_wp2_with fail
      refine (hT1 _).mono ?_
      rintro e w2 ⟨v1, rfl, hrow1, hbl2⟩
      obtain ⟨a1, k1, rfl⟩ : ∃ a k, v1 = .slice a 0 k := by
        rcases hrow1.2 with ⟨rfl, _⟩ | ⟨g, cap, cur, hv, _⟩
        · exact ⟨_, _, rfl⟩
        · exact ⟨_, _, hv⟩
      have hbx1 := heap_alloc_new w2 (.cells #[.int .i64 62, .int .i64 ((s.size : Int) + 2)] 31)
      have hbw1 := (hbl1.trans (hbl2.mono hbl1.size)).alloc (Nat.le_trans hbl1.size hbl2.size) (.cells #[.int .i64 62, .int .i64 ((s.size : Int) + 2)] 31)
      have hlx1 : w2.heap.size < (w2.alloc (.cells #[.int .i64 62, .int .i64 ((s.size : Int) + 2)] 31)).heap.size := by simp
      clear hrow1 hbl2 hT1
      go_wp2_with fail
      generalize w2.alloc (.cells #[.int .i64 62, .int .i64 ((s.size : Int) + 2)] 31) = W2 at hbx1 hbw1 hlx1 ⊢
      refine (hT2 _).mono ?_
      rintro e w3 ⟨v2, rfl, hrow2, hbl3⟩
      obtain ⟨g, cap, rfl⟩ : ∃ g cap, v2 = .slice (some ⟨g, 0, none⟩) 1 cap := by
        rcases hrow2.2 with ⟨_, h0⟩ | ⟨g, cap, cur, hv, _⟩
        · exact absurd h0 (by simp [placed])
        · exact ⟨g, cap, hv⟩
      have hV := ToksV.ofRow hrow2 rfl
      have hba := (Below.refl w3.heap.size w3).alloc (Nat.le_refl _) (.cells #[.int .i64 0, .int .i64 0] 31)
      have hV2 := hV.below hba
      obtain ⟨b, off, e1, hlt, c0, c1, c2⟩ := hV2 0 (by simp [placed])
      cases e1
      have c0 : (w3.alloc (.cells #[.int .i64 0, .int .i64 0] 31)).cell? ⟨g, 0, none⟩ = some (.int .u8 2) := c0
      have c1 : (w3.alloc (.cells #[.int .i64 0, .int .i64 0] 31)).cell? ⟨g, 1, none⟩ = some (.string s) := c1
      have c2 : (w3.alloc (.cells #[.int .i64 0, .int .i64 0] 31)).cell? ⟨g, 2, none⟩ = some (.int .i64 0) := c2
      have hbw3 := (hbw1.trans (hbl3.mono hbw1.size)).trans (hba.mono (Nat.le_trans hbw1.size hbl3.size))
      have hbox := heap_alloc_new w3 (.cells #[.int .i64 0, .int .i64 0] 31)
      have d0 : (w3.alloc (.cells #[.int .i64 0, .int .i64 0] 31)).cell? ⟨w3.heap.size, 0, none⟩ = some (.int .i64 0) := by rw [Lib.cell_of_heap hbox]; rfl
      have hbx3 : (w3.alloc (.cells #[.int .i64 0, .int .i64 0] 31)).heap[w2.heap.size]? = _ := (hba.block _ (Nat.lt_of_lt_of_le hlx1 hbl3.size)).trans ((hbl3.block _ hlx1).trans hbx1)
      have d1 : (w3.alloc (.cells #[.int .i64 0, .int .i64 0] 31)).cell? ⟨w2.heap.size, 0, none⟩ = some (.int .i64 62) := by rw [Lib.cell_of_heap hbx3]; rfl
      have d2 : (w3.alloc (.cells #[.int .i64 0, .int .i64 0] 31)).cell? ⟨w2.heap.size, 1, none⟩ = some (.int .i64 ((s.size : Int) + 2)) := by rw [Lib.cell_of_heap hbx3]; rfl
      have hAw := hA (w3.alloc (.cells #[.int .i64 0, .int .i64 0] 31))
      clear hrow2 hV hV2 hba hbl3 hlt hbox hbx1 hbx3 hbw1 hT2 hlx1 hA
      simp only [show (placed 0 [(2, s, 0)]).length = 1 from rfl]
      go_wp2_with (go_at_call 11; refine hAw.mono ?_; rintro e w4 ⟨rfl, hb4⟩)
      go_ret
      exact ⟨rfl, hbw3.trans (hb4.mono hbw3.size)⟩
  · rw [show numOut (45 :: decL n) = 0 by rw [numOut, hmB, if_neg (by simp; omega)], show numErr (45 :: decL n) = 62 by rw [numErr, hmB, if_neg (by simp; omega)]] at hN2
    clear hmB hmV
    go_wp2_with fail
    refine (hN2 _).mono ?_
    rintro e w' ⟨rfl, rfl⟩
    clear hN2
    go_wp2_with fail
    refine (hT1 _).mono ?_
    rintro e w2 ⟨v1, rfl, hrow1, hbl2⟩
    obtain ⟨a1, k1, rfl⟩ : ∃ a k, v1 = .slice a 0 k := by
      rcases hrow1.2 with ⟨rfl, _⟩ | ⟨g, cap, cur, hv, _⟩
      · exact ⟨_, _, rfl⟩
      · exact ⟨_, _, hv⟩
    have hbx1 := heap_alloc_new w2 (.cells #[.int .i64 62, .int .i64 ((s.size : Int) + 2)] 31)
    have hbw1 := (hbl1.trans (hbl2.mono hbl1.size)).alloc (Nat.le_trans hbl1.size hbl2.size) (.cells #[.int .i64 62, .int .i64 ((s.size : Int) + 2)] 31)
    have hlx1 : w2.heap.size < (w2.alloc (.cells #[.int .i64 62, .int .i64 ((s.size : Int) + 2)] 31)).heap.size := by simp
    clear hrow1 hbl2 hT1
    go_wp2_with fail
    generalize w2.alloc (.cells #[.int .i64 62, .int .i64 ((s.size : Int) + 2)] 31) = W2 at hbx1 hbw1 hlx1 ⊢
    refine (hT2 _).mono ?_
    rintro e w3 ⟨v2, rfl, hrow2, hbl3⟩
    obtain ⟨g, cap, rfl⟩ : ∃ g cap, v2 = .slice (some ⟨g, 0, none⟩) 1 cap := by
      rcases hrow2.2 with ⟨_, h0⟩ | ⟨g, cap, cur, hv, _⟩
      · exact absurd h0 (by simp [placed])
      · exact ⟨g, cap, hv⟩
    have hV := ToksV.ofRow hrow2 rfl
    have hba := (Below.refl w3.heap.size w3).alloc (Nat.le_refl _) (.cells #[.int .i64 0, .int .i64 0] 31)
    have hV2 := hV.below hba
    obtain ⟨b, off, e1, hlt, c0, c1, c2⟩ := hV2 0 (by simp [placed])
    cases e1
    have c0 : (w3.alloc (.cells #[.int .i64 0, .int .i64 0] 31)).cell? ⟨g, 0, none⟩ = some (.int .u8 2) := c0
    have c1 : (w3.alloc (.cells #[.int .i64 0, .int .i64 0] 31)).cell? ⟨g, 1, none⟩ = some (.string s) := c1
    have c2 : (w3.alloc (.cells #[.int .i64 0, .int .i64 0] 31)).cell? ⟨g, 2, none⟩ = some (.int .i64 0) := c2
    have hbw3 := (hbw1.trans (hbl3.mono hbw1.size)).trans (hba.mono (Nat.le_trans hbw1.size hbl3.size))
    have hbox := heap_alloc_new w3 (.cells #[.int .i64 0, .int .i64 0] 31)
    have d0 : (w3.alloc (.cells #[.int .i64 0, .int .i64 0] 31)).cell? ⟨w3.heap.size, 0, none⟩ = some (.int .i64 0) := by rw [Lib.cell_of_heap hbox]; rfl
    have hbx3 : (w3.alloc (.cells #[.int .i64 0, .int .i64 0] 31)).heap[w2.heap.size]? = _ := (hba.block _ (Nat.lt_of_lt_of_le hlx1 hbl3.size)).trans ((hbl3.block _ hlx1).trans hbx1)
    have d1 : (w3.alloc (.cells #[.int .i64 0, .int .i64 0] 31)).cell? ⟨w2.heap.size, 0, none⟩ = some (.int .i64 62) := by rw [Lib.cell_of_heap hbx3]; rfl
    have d2 : (w3.alloc (.cells #[.int .i64 0, .int .i64 0] 31)).cell? ⟨w2.heap.size, 1, none⟩ = some (.int .i64 ((s.size : Int) + 2)) := by rw [Lib.cell_of_heap hbx3]; rfl
    have hAw := hA (w3.alloc (.cells #[.int .i64 0, .int .i64 0] 31))
    clear hrow2 hV hV2 hba hbl3 hlt hbox hbx1 hbx3 hbw1 hT2 hlx1 hA
    simp only [show (placed 0 [(2, s, 0)]).length = 1 from rfl]
    go_wp2_with (go_at_call 11; refine hAw.mono ?_; rintro e w4 ⟨rfl, hb4⟩)
    go_ret
    exact ⟨rfl, hbw3.trans (hb4.mono hbw3.size)⟩

end Go.Proofs.Ytccllonkhklldaa
