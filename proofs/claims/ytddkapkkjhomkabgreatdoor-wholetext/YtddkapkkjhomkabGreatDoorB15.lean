/-
  Texts laid together in one: LexQuote, LexWrite, MathLn, AsmRow, AsmWanted.
-/
import Derived.WalkSpells
import Derived.WalkMore
import Derived.Test.YtddkapkkjhomkabGreatDoorProg
import Derived.Test.YtddkapkkjhomkabGreatDoorB10
import Derived.Test.YtddkapkkjhomkabGreatDoorB14
import Derived.Test.YtddkapkkjhomkabGreatDoorB11
import Derived.Lib.Bytealg
import Derived.Lib.IndexLaws
import Derived.Test.YtddkapkkjhomkabGreatDoorB09
import Derived.BigRegion
import Derived.Deep.QuietTactic
import Derived.BigQuiet
import Derived.Test.YtddkapkkjhomkabGreatDoorB12
import Derived.Test.YtddkapkkjhomkabGreatDoorB03
import Derived.Test.YtddkapkkjhomkabGreatDoorB06
import Derived.Test.YtddkapkkjhomkabGreatDoorB05
/-
  What Quote of the layer lex returns, for every text whose quoted form keeps to Go's own limit of a length; nothing that was there turns.
-/
namespace Go.Proofs.YtddkapkkjhomkabGreatDoor
open Go.RowKit
set_option maxRecDepth 10000
set_option linter.unusedVariables false
set_option linter.unusedSimpArgs false

theorem esc_quote {c : Int} (h : c = 34 ∨ c = 92) : escL c = [92, c] := by unfold escL; rw [if_pos h]
theorem esc_print {c : Int} (h : ¬ (c = 34 ∨ c = 92)) (h1 : printB c = true) : escL c = [c] := by unfold escL; rw [if_neg h, if_pos h1]
theorem esc_hex {c : Int} (h : ¬ (c = 34 ∨ c = 92)) (h1 : printB c = false) : escL c = [92, 120, hexD (c / 16), hexD (c % 16)] := by unfold escL; rw [if_neg h, if_neg (by simp [h1])]
theorem and15 {c : Int} (h0 : 0 ≤ c) (h1 : c < 256) : bits .and .u8 c 15 = c % 16 := by
  obtain ⟨n, rfl⟩ := Int.eq_ofNat_of_zero_le h0
  have hn : n < 256 := by omega
  have key : ∀ n : Fin 256, bits .and .u8 ((n.val : Nat) : Int) 15 = ((n.val : Nat) : Int) % 16 := by decide +kernel
  exact key ⟨n, hn⟩

set_option maxHeartbeats 2000000 in
theorem quote_any (s : ByteArray) (w : World) (hs : 4 * s.size + 2 ≤ 140737488355328) :
    Calls Tryz.prog 103 #[.string s] w fun e w' => e = .returned (.string (strOfNums (quoteL (strI s)))) ∧ Below w.heap.size w w' := by
  have HLen := strI_len s
  have HS : Hid (∀ k, k < s.size → (34 :: ((strI s).take (k + 1)).flatMap escL) = (34 :: ((strI s).take k).flatMap escL) ++ escL (nth (strI s) k)) := fun k hk => by
    rw [flat_snoc _ k (by omega)]; rfl
  have HE : Hid ((34 :: ((strI s).take s.size).flatMap escL) ++ [34] = quoteL (strI s)) := by
    show _ = _
    rw [List.take_of_length_le (by omega)]; rfl
  have HW : Hid (Within 256 (quoteL (strI s))) := quoteL_within (strI_within s)
  have HL : Hid (∀ k, k ≤ s.size → (34 :: ((strI s).take k).flatMap escL).length ≤ 4 * k + 1) := fun k hk => by
    have := flat_lenX ((strI s).take k)
    rw [List.length_take] at this
    simp only [List.length_cons]; omega
  have h0 := bld_new w w.heap.size (Nat.le_refl _)
  have b0 : Below w.heap.size w (w.alloc (.cells #[.pointer none, .slice none 0 0] 120)) := (Below.refl _ w).alloc (Nat.le_refl _) _
  have hW0 := writeByte_any w.heap.size w.heap.size [] 34 _ h0 (by simp) b0.size
  clear h0 HLen
  go_enter Tryz.func103, Tryz.ntmps103
  go_wp2_with fail
  refine hW0.mono ?_
  rintro e w1 ⟨rfl, h1, b1, _⟩
  have bel1 := b0.trans b1
  clear hW0 b0 b1
  go_wp2_with fail
  go_loopw [9] (fun i wr => ∃ k : Nat, k ≤ s.size ∧ i = .int .i64 k ∧ Bld w.heap.size w.heap.size (34 :: ((strI s).take k).flatMap escL) wr ∧ Below w.heap.size w wr) (fun i _ => s.size - (intOf i).toNat)
  case atStart => exact ⟨0, Nat.zero_le _, rfl, h1, bel1⟩
  case round =>
    obtain ⟨k, hk, rfl, hB, hbel⟩ := hrel
    have hl := HL.out k hk
    have hsz := hbel.size
    clear h1 bel1
    by_cases hlt : k < s.size
    · have hc0 : (0 : Int) ≤ (s[k].toNat : Int) := by omega
      have hc1 : (s[k].toNat : Int) < 256 := by have := s[k].toNat_lt; omega
      have hP := fun wx => printable_any (s[k].toNat : Int) wx hc0 hc1
      have eS := HS.out k hlt
      rw [nth_strI s k hlt] at eS
      have ES : Hid ((34 :: ((strI s).take (k + 1)).flatMap escL) = (34 :: ((strI s).take k).flatMap escL) ++ escL (s[k].toNat : Int)) := eS
      clear eS
      generalize (34 :: ((strI s).take k).flatMap escL) = zs at hB hl ES
      by_cases hq : (s[k].toNat : Int) = 34 ∨ (s[k].toNat : Int) = 92
      · rw [esc_quote hq] at ES
        have hW1 := writeByte_any w.heap.size w.heap.size zs 92 wr hB (by omega) hsz
        rcases hq with hq | hq
        · have hq' : ((s[k].toNat : Int) == 34) = true := by simpa using hq
          rw [hq] at ES
          clear hP hB
          go_wp2_with fail
          refine hW1.mono ?_
          rintro e w1 ⟨rfl, h1, b1, _⟩
          have hW2 := writeByte_any w.heap.size w.heap.size (zs ++ [92]) 34 w1 h1 (by simp; omega) (Nat.le_trans hsz b1.size)
          go_wp2_with fail
          refine hW2.mono ?_
          rintro e w2 ⟨rfl, h2, b2, _⟩
          go_wp2_with fail
          go_roundw
          case rel => exact ⟨k + 1, by omega, by go_num, by rw [ES.out]; simpa using h2, (hbel.trans b1).trans b2⟩
          case measure => simp [intOf]; omega
        · have hq' : ((s[k].toNat : Int) == 34) = false := by rw [hq]; rfl
          have hq2 : ((s[k].toNat : Int) == 92) = true := by simpa using hq
          rw [hq] at ES
          clear hP hB
          go_wp2_with fail
          refine hW1.mono ?_
          rintro e w1 ⟨rfl, h1, b1, _⟩
          have hW2 := writeByte_any w.heap.size w.heap.size (zs ++ [92]) 92 w1 h1 (by simp; omega) (Nat.le_trans hsz b1.size)
          go_wp2_with fail
          refine hW2.mono ?_
          rintro e w2 ⟨rfl, h2, b2, _⟩
          go_wp2_with fail
          go_roundw
          case rel => exact ⟨k + 1, by omega, by go_num, by rw [ES.out]; simpa using h2, (hbel.trans b1).trans b2⟩
          case measure => simp [intOf]; omega
      · have hq1 : ((s[k].toNat : Int) == 34) = false := by simpa using fun e => hq (.inl e)
        have hq2 : ((s[k].toNat : Int) == 92) = false := by simpa using fun e => hq (.inr e)
        cases hp : printB (s[k].toNat : Int)
        · rw [esc_hex hq hp] at ES
          rw [hp] at hP
          have hd1 := fun wx => hexDigit_any ((s[k].toNat : Int) / 16) wx (by omega) (by omega)
          have hd2 := fun wx => hexDigit_any ((s[k].toNat : Int) % 16) wx (by omega) (by omega)
          have ha := and15 hc0 hc1
          have hW1 := writeString_any w.heap.size w.heap.size zs { data := #[92, 120] } wr hB (by show _ + 2 ≤ _; omega) hsz
          rw [show strI { data := #[92, 120] } = [92, 120] from rfl] at hW1
          have D1 : Hid ((if (s[k].toNat : Int) / 16 < 10 then 48 + (s[k].toNat : Int) / 16 else 87 + (s[k].toNat : Int) / 16) = hexD ((s[k].toNat : Int) / 16)) := rfl
          have D2 : Hid ((if (s[k].toNat : Int) % 16 < 10 then 48 + (s[k].toNat : Int) % 16 else 87 + (s[k].toNat : Int) % 16) = hexD ((s[k].toNat : Int) % 16)) := rfl
          rw [D1.out] at hd1
          rw [D2.out] at hd2
          clear hq hp hB D1 D2
          generalize hexD ((s[k].toNat : Int) / 16) = d1 at *
          generalize hexD ((s[k].toNat : Int) % 16) = d2 at *
          go_wp2_with fail
          refine (hP _).mono ?_
          rintro e w' ⟨rfl, rfl⟩
          go_wp2_with fail
          refine hW1.mono ?_
          rintro e w1 ⟨rfl, h1, b1, _⟩
          have s1 := Nat.le_trans hsz b1.size
          go_wp2_with fail
          refine (hd1 _).mono ?_
          rintro e w' ⟨rfl, rfl⟩
          have hW2 := writeByte_any w.heap.size w.heap.size (zs ++ [92, 120]) d1 w1 h1 (by simp; omega) s1
          go_wp2_with fail
          refine hW2.mono ?_
          rintro e w2 ⟨rfl, h2, b2, _⟩
          go_wp2_with fail
          refine (hd2 _).mono ?_
          rintro e w' ⟨rfl, rfl⟩
          have hW3 := writeByte_any w.heap.size w.heap.size (zs ++ [92, 120] ++ [d1]) d2 w2 h2 (by simp; omega) (Nat.le_trans s1 b2.size)
          go_wp2_with fail
          refine hW3.mono ?_
          rintro e w3 ⟨rfl, h3, b3, _⟩
          go_wp2_with fail
          go_roundw
          case rel => exact ⟨k + 1, by omega, by go_num, by rw [ES.out]; simpa using h3, ((hbel.trans b1).trans b2).trans b3⟩
          case measure => simp [intOf]; omega
        · rw [esc_print hq hp] at ES
          rw [hp] at hP
          have hW1 := writeByte_any w.heap.size w.heap.size zs (s[k].toNat : Int) wr hB (by omega) hsz
          clear hq hp hB
          go_wp2_with fail
          refine (hP _).mono ?_
          rintro e w' ⟨rfl, rfl⟩
          go_wp2_with fail
          refine hW1.mono ?_
          rintro e w1 ⟨rfl, h1, b1, _⟩
          go_wp2_with fail
          go_roundw
          case rel => exact ⟨k + 1, by omega, by go_num, by rw [ES.out]; exact h1, hbel.trans b1⟩
          case measure => simp [intOf]; omega
    · obtain rfl : k = s.size := by omega
      have hW1 := writeByte_any w.heap.size w.heap.size _ 34 wr hB (by omega) hsz
      rw [HE.out] at hW1
      clear hB
      go_wp2_with fail
      refine hW1.mono ?_
      rintro e w1 ⟨rfl, h1, b1, _⟩
      have hW2 := buildString_any w.heap.size w.heap.size _ w1 h1 HW.out (Nat.le_trans hsz b1.size)
      clear hW1 h1
      go_wp2_with fail
      refine hW2.mono ?_
      rintro e w2 ⟨rfl, h2, b2, _⟩
      clear hW2 h2
      go_wp2_with fail
      go_ret
      exact ⟨rfl, (hbel.trans b1).trans b2⟩

end Go.Proofs.YtddkapkkjhomkabGreatDoor

/-
  What written and Write of the layer lex return, for every list of tokens whose line keeps to Go's own limit of a length; nothing that was there turns.
-/
namespace Go.Proofs.YtddkapkkjhomkabGreatDoor
open Go.RowKit
set_option maxRecDepth 10000
set_option linter.unusedVariables false
set_option linter.unusedSimpArgs false

theorem written_any (k : Int) (s : ByteArray) (a : Int) (w : World) (hk0 : 0 ≤ k) (hk1 : k < 256) (hs : 4 * s.size + 2 ≤ 140737488355328) :
    Calls Tryz.prog 67 #[.agg #[.int .u8 k, .string s, .int .i64 a]] w fun e w' => e = .returned (.string (strOfNums (tokS k (strI s)))) ∧ Below w.heap.size w w' := by
  have HB : Hid (Below w.heap.size w (w.alloc (.cells #[.int .u8 k, .string s, .int .i64 a] 41))) := (Below.refl _ w).alloc (Nat.le_refl _) _
  by_cases k2 : k = 2
  · subst k2
    have HT : Hid (strOfNums (tokS 2 (strI s)) = { data := #[37] } ++ s) := by
      show _ = _
      rw [show tokS 2 (strI s) = [37] ++ strI s from rfl, strOfNums_append, str_of_strI]; rfl
    go_enter Tryz.func67, Tryz.ntmps67
    go_wp2_with fail
    go_ret
    exact ⟨by rw [HT.out]; rfl, HB.out⟩
  by_cases k4 : k = 4
  · subst k4
    have HT : Hid (tokS 4 (strI s) = quoteL (strI s)) := rfl
    have hQ := fun wx => quote_any s wx hs
    go_enter Tryz.func67, Tryz.ntmps67
    go_wp2_with fail
    refine (hQ _).mono ?_
    rintro e w' ⟨rfl, hb⟩
    go_wp2_with fail
    go_ret
    exact ⟨by rw [HT.out]; rfl, HB.out.trans (hb.mono (by simp))⟩
  have HT : Hid (strOfNums (tokS k (strI s)) = s) := by
    show _ = _
    rw [show tokS k (strI s) = strI s by simp [tokS, k2, k4], str_of_strI]
  have b2 : (k == 2) = false := by simpa using k2
  have b4 : (k == 4) = false := by simpa using k4
  clear k2 k4
  go_enter Tryz.func67, Tryz.ntmps67
  go_wp2_with fail
  go_ret
  exact ⟨by rw [HT.out]; rfl, HB.out⟩

set_option maxHeartbeats 2000000 in
theorem write_any (a : Option Addr) (n cap : Nat) (l : List TokT) (w : World) (hv : ToksV w a l) (hl : l.length = n) (hok : ToksIn l) (hu : 4 * bulkT l + 3 * n ≤ 140737488351232) :
    Calls Tryz.prog 36 #[.slice a n cap] w fun e w' => e = .returned (.tuple #[.string (strOfNums (wOut l)), .int .i64 (wErr l)]) ∧ Below w.heap.size w w' := by
  have HL : Hid (l.length = n) := hl
  have HV : Hid (ToksV w a l) := hv
  have HK : Hid (ToksIn l) := hok
  have HLEN : Hid (∀ k, k ≤ n → ((wAll (l.take k)).drop 1).length ≤ 4 * bulkT l + 3 * n) := fun k hk => by
    have h1 := wAll_len (l.take k)
    have h2 := bulkT_take l k
    rw [List.length_take, HL.out] at h1
    rw [List.length_drop]; omega
  have HBK : Hid (∀ k, k < n → (nthT l k).2.1.size ≤ bulkT l) := fun k hk => bulkT_at l k (by rw [HL.out]; exact hk)
  have HN : Hid (∀ k, k < n → tokOk (nthT l k).1 (strI (nthT l k).2.1) = false → wOk l = false) := fun k hk h => wOk_not (by rw [HL.out]; exact hk) h
  have HA : Hid ((∀ k, k < n → tokOk (nthT l k).1 (strI (nthT l k).2.1) = true) → wOk l = true) := fun h => wOk_all (by rw [HL.out]; exact h)
  have hli : (n : Int) ≤ 140737488351232 := by omega
  have HU : Hid (4 * bulkT l + 3 * n ≤ 140737488351232) := hu
  have h0 := bld_new w w.heap.size (Nat.le_refl _)
  have b0 : Below w.heap.size w (w.alloc (.cells #[.pointer none, .slice none 0 0] 120)) := (Below.refl _ w).alloc (Nat.le_refl _) _
  have H0 : Hid (Bld w.heap.size w.heap.size [] (w.alloc (.cells #[.pointer none, .slice none 0 0] 120))) := h0
  clear hv hl hok hu h0
  go_enter Tryz.func36, Tryz.ntmps36
  go_wp2_with fail
  go_loopw [9] (fun i wr => ∃ k : Nat, k ≤ n ∧ i = .int .i64 k ∧ Bld w.heap.size w.heap.size ((wAll (l.take k)).drop 1) wr ∧ Below w.heap.size w wr ∧ ∀ j, j < k → tokOk (nthT l j).1 (strI (nthT l j).2.1) = true) (fun i _ => n - (intOf i).toNat)
  case atStart => exact ⟨0, Nat.zero_le _, rfl, H0.out, b0, fun j hj => by omega⟩
  case round =>
    obtain ⟨k, hk, rfl, hB, hbel, hall⟩ := hrel
    have hlen := HLEN.out k hk
    have hsz := hbel.size
    have hwlt : w.heap.size < wr.heap.size := bld_lt hB
    clear H0 b0
    by_cases hlt : k < n
    · obtain ⟨b, off, rfl, hblt, c0, c1, c2⟩ := HV.out k (by rw [HL.out]; exact hlt)
      obtain ⟨t0, t1, t2, t3, t4⟩ := HK.out k (by rw [HL.out]; exact hlt)
      have hbk := HBK.out k hlt
      have EN : Hid (tokOk (nthT l k).1 (strI (nthT l k).2.1) = false → wOk l = false) := HN.out k hlt
      have d0 := (hbel.cell (p := ⟨b, off + k * 3, none⟩) hblt).trans c0
      have d1 := (hbel.cell (p := ⟨b, off + k * 3 + 1, none⟩) hblt).trans c1
      have d2 := (hbel.cell (p := ⟨b, off + k * 3 + 2, none⟩) hblt).trans c2
      have EA : Hid (tokOk (nthT l k).1 (strI (nthT l k).2.1) = true → ∀ j, j < k + 1 → tokOk (nthT l j).1 (strI (nthT l j).2.1) = true) := fun h j hj => by
        by_cases e : j = k
        · subst e; exact h
        · exact hall j (by omega)
      have E0 : Hid (k = 0 → (wAll (l.take (k + 1))).drop 1 = (wAll (l.take k)).drop 1 ++ tokS (nthT l k).1 (strI (nthT l k).2.1)) := fun e => by
        subst e
        rw [wAll_drop0 l (by rw [HL.out]; omega)]; rfl
      have E1 : Hid (0 < k → (wAll (l.take (k + 1))).drop 1 = ((wAll (l.take k)).drop 1 ++ [32]) ++ tokS (nthT l k).1 (strI (nthT l k).2.1)) := fun e => wAll_dropS l k e (by rw [HL.out]; omega)
      clear c0 c1 c2 hall
      generalize (nthT l k).1 = tk at *
      generalize (nthT l k).2.1 = ts at *
      generalize (nthT l k).2.2 = ta at *
      generalize (wAll (l.take k)).drop 1 = zs at *
      have hMB := fun wx => mayBe_any tk ts ta wx t0 t1 t2
      have hWR := fun wx => written_any tk ts ta wx t0 t1 (by have := HU.out; omega)
      have hBa := bld_alloc hB (.cells #[.int .u8 tk, .string ts, .int .i64 ta] 41)
      have hba := hbel.alloc hsz (.cells #[.int .u8 tk, .string ts, .int .i64 ta] 41)
      have hbx : (wr.alloc (.cells #[.int .u8 tk, .string ts, .int .i64 ta] 41)).heap[wr.heap.size]? = some (.cells #[.int .u8 tk, .string ts, .int .i64 ta] 41 (0, 0)) := heap_alloc_new wr _
      have hlx : wr.heap.size < (wr.alloc (.cells #[.int .u8 tk, .string ts, .int .i64 ta] 41)).heap.size := by simp
      have hTL : (strOfNums (tokS tk (strI ts))).size ≤ 4 * ts.size + 2 := by rw [strOfNums_size]; have := tokS_len tk (strI ts); rw [strI_len] at this; exact this
      have HTL : Hid ((strOfNums (tokS tk (strI ts))).size ≤ 4 * ts.size + 2) := hTL
      have HSW : Hid (strI (strOfNums (tokS tk (strI ts))) = tokS tk (strI ts)) := strI_of (tokS_within (strI_within ts))
      clear hB hTL
      go_wp2_with fail
      generalize wr.alloc (.cells #[.int .u8 tk, .string ts, .int .i64 ta] 41) = W1 at hBa hba hbx hlx ⊢
      refine (hMB _).mono ?_
      rintro e w2 ⟨rfl, hb2⟩
      have hB2 := bld_below hBa hb2
      have hbx2 := (hb2.block _ hlx).trans hbx
      have hbel2 := hba.trans (hb2.mono hba.size)
      clear hBa hbx hba hb2 hlx hMB
      generalize tokOk tk (strI ts) = B at *
      cases B
      · have HF : Hid (wOk l = false) := EN.out rfl
        have HO : Hid (strOfNums (wOut l) = ⟨#[]⟩ ∧ wErr l = 2) := by
          have := HF.out
          show _ ∧ _
          unfold wOut wErr; rw [this]; exact ⟨rfl, rfl⟩
        clear hB2 hbx2
        go_wp2_with fail
        go_ret2
        exact ⟨by rw [HO.out.1, HO.out.2]; rfl, hbel2⟩
      · have HR : Hid (∀ j, j < k + 1 → tokOk (nthT l j).1 (strI (nthT l j).2.1) = true) := EA.out rfl
        clear EA EN
        by_cases hk0 : k = 0
        · have HE := E0.out hk0
          subst hk0
          have x0 : w2.cell? ⟨wr.heap.size, 0, none⟩ = some (.int .u8 tk) := by rw [Lib.cell_of_heap hbx2]; rfl
          have x1 : w2.cell? ⟨wr.heap.size, 1, none⟩ = some (.string ts) := by rw [Lib.cell_of_heap hbx2]; rfl
          have x2 : w2.cell? ⟨wr.heap.size, 2, none⟩ = some (.int .i64 ta) := by rw [Lib.cell_of_heap hbx2]; rfl
          have HEH : Hid ((wAll (l.take (0 + 1))).drop 1 = zs ++ tokS tk (strI ts)) := HE
          clear hbx2 E0 E1 HE
          go_wp2_with fail
          refine (hWR _).mono ?_
          rintro e w3 ⟨rfl, hb3⟩
          have hbel3 := hbel2.trans (hb3.mono hbel2.size)
          have hW2 := writeString_any w.heap.size w.heap.size zs (strOfNums (tokS tk (strI ts))) w3 (bld_below hB2 hb3) (by have h1 := HLEN.out (0 + 1) (by omega); rw [HEH.out, List.length_append] at h1; rw [strOfNums_size]; have := HU.out; omega) hbel3.size
          rw [HSW.out] at hW2
          clear hB2 x0 x1 x2 hWR hb3 hbel2
          go_wp2_with fail
          refine hW2.mono ?_
          rintro e w4 ⟨rfl, hB4, hb4, _⟩
          clear hW2
          go_wp2_with fail
          go_roundw
          case rel => exact ⟨0 + 1, by omega, by go_num, by rw [HEH.out]; exact hB4, hbel3.trans hb4, HR.out⟩
          case measure => simp [intOf]; omega
        · have HEH : Hid ((wAll (l.take (k + 1))).drop 1 = (zs ++ [32]) ++ tokS tk (strI ts)) := E1.out (by omega)
          have hkp : (0 : Int) < (k : Int) := by omega
          have hW1 := writeByte_any w.heap.size w.heap.size zs 32 w2 hB2 (by have := HU.out; omega) hbel2.size
          clear E0 E1 hB2
          go_wp2_with fail
          refine hW1.mono ?_
          rintro e w3 ⟨rfl, hB3, hb3, hk3⟩
          have hbx3 := hk3 _ _ hbx2 (by simp; omega) (fun c fz => by simp)
          have hbel3 := hbel2.trans hb3
          have x0 : w3.cell? ⟨wr.heap.size, 0, none⟩ = some (.int .u8 tk) := by rw [Lib.cell_of_heap hbx3]; rfl
          have x1 : w3.cell? ⟨wr.heap.size, 1, none⟩ = some (.string ts) := by rw [Lib.cell_of_heap hbx3]; rfl
          have x2 : w3.cell? ⟨wr.heap.size, 2, none⟩ = some (.int .i64 ta) := by rw [Lib.cell_of_heap hbx3]; rfl
          clear hbx2 hbx3 hk3 hb3 hW1 hbel2
          go_wp2_with fail
          refine (hWR _).mono ?_
          rintro e w4 ⟨rfl, hb4⟩
          have hbel4 := hbel3.trans (hb4.mono hbel3.size)
          have hW2 := writeString_any w.heap.size w.heap.size (zs ++ [32]) (strOfNums (tokS tk (strI ts))) w4 (bld_below hB3 hb4) (by have h1 := HLEN.out (k + 1) (by omega); rw [HEH.out, List.length_append] at h1; rw [strOfNums_size]; have := HU.out; omega) hbel4.size
          rw [HSW.out] at hW2
          clear hB3 x0 x1 x2 hWR hb4 hbel3
          go_wp2_with fail
          refine hW2.mono ?_
          rintro e w5 ⟨rfl, hB5, hb5, _⟩
          clear hW2
          go_wp2_with fail
          go_roundw
          case rel => exact ⟨k + 1, by omega, by go_num, by rw [HEH.out]; exact hB5, hbel4.trans hb5, HR.out⟩
          case measure => simp [intOf]; omega
    · obtain rfl : k = n := by omega
      have HT : Hid (wOk l = true) := HA.out hall
      have HO : Hid ((wAll (l.take k)).drop 1 = wOut l ∧ wErr l = 0) := by
        have := HT.out
        show _ ∧ _
        unfold wOut wErr
        rw [this, List.take_of_length_le (by rw [HL.out]; omega)]; exact ⟨rfl, rfl⟩
      rw [HO.out.1] at hB
      have hW2 := buildString_any w.heap.size w.heap.size _ wr hB (by rw [← HO.out.1]; exact within_dropX (wAll_within _) 1) hsz
      clear hall hB hlen
      go_wp2_with fail
      refine hW2.mono ?_
      rintro e w2 ⟨rfl, h2, b2, _⟩
      clear hW2 h2
      go_wp2_with fail
      go_ret2
      exact ⟨by rw [HO.out.2]; rfl, hbel.trans b2⟩

end Go.Proofs.YtddkapkkjhomkabGreatDoor

/-
  Lines of a text: the cut at the first byte 10, the lines with their numbers, and what they come to joined.
-/
namespace Go.Proofs.YtddkapkkjhomkabGreatDoor
open Go.RowKit
set_option linter.unusedSimpArgs false
set_option linter.unusedVariables false

def nlAt (s : ByteArray) : Int := Lib.indexByte s.data.toList 10
def cutAX (s : ByteArray) : ByteArray := if nlAt s < 0 then s else s.extract 0 (nlAt s).toNat
def cutZ (s : ByteArray) : ByteArray := if nlAt s < 0 then ⟨#[]⟩ else s.extract ((nlAt s).toNat + 1) s.size
def linesF : Nat → Nat → ByteArray → List (Nat × ByteArray)
  | 0, _, _ => []
  | f + 1, n, s => if s.size = 0 then [] else (n, cutAX s) :: linesF f (n + 1) (cutZ s)
def linesT (s : ByteArray) : List (Nat × ByteArray) := linesF s.size 1 s
theorem nl_cases (s : ByteArray) : (nlAt s = -1 ∧ ∀ k : Nat, s.data.toList[k]? ≠ some 10) ∨ (∃ m : Nat, nlAt s = m ∧ m < s.size ∧ s.data.toList[m]? = some 10 ∧ ∀ k : Nat, k < m → s.data.toList[k]? ≠ some 10) := by
  have h := Lib.indexByte_ge s.data.toList 10
  by_cases h0 : nlAt s < 0
  · have e : nlAt s = -1 := by unfold nlAt at *; omega
    exact Or.inl ⟨e, fun k => Lib.indexByte_none e k⟩
  · obtain ⟨m, e⟩ : ∃ m : Nat, nlAt s = m := ⟨(nlAt s).toNat, by omega⟩
    obtain ⟨h1, h2⟩ := Lib.indexByte_some (show Lib.indexByte s.data.toList 10 = m from e)
    refine Or.inr ⟨m, e, ?_, h1, h2⟩
    have := (List.getElem?_eq_some_iff.1 h1).1
    rw [Array.length_toList] at this
    exact this
theorem nl_some {s : ByteArray} {o : Nat} (h1 : s.data.toList[o]? = some 10) (h2 : ∀ k : Nat, k < o → s.data.toList[k]? ≠ some 10) : nlAt s = o := by
  rcases nl_cases s with ⟨_, h⟩ | ⟨m, e, _, h3, h4⟩
  · exact absurd h1 (h o)
  · rcases Nat.lt_trichotomy m o with h | h | h
    · exact absurd h3 (h2 m h)
    · rw [e, h]
    · exact absurd h1 (h4 o h)
theorem cutA_size (s : ByteArray) : (cutAX s).size ≤ s.size := by
  unfold cutAX; split
  · exact Nat.le_refl _
  · rw [ByteArray.size_extract]; omega
theorem cutZ_size (s : ByteArray) (h : s.size ≠ 0) : (cutZ s).size < s.size := by
  unfold cutZ; split
  · show 0 < s.size; omega
  · rw [ByteArray.size_extract]; omega
theorem strI_at (s : ByteArray) (k : Nat) : (strI s)[k]? = (s.data.toList[k]?).map fun b => (b.toNat : Int) := by
  simp [strI]
theorem ten_iff (b : UInt8) : (b.toNat : Int) = 10 ↔ b = 10 := by
  constructor
  · intro h
    have : b.toNat = (10 : UInt8).toNat := by show b.toNat = 10; omega
    exact UInt8.toNat_inj.1 this
  · rintro rfl; rfl
theorem strI_ten (s : ByteArray) (k : Nat) : (strI s)[k]? = some 10 ↔ s.data.toList[k]? = some 10 := by
  rw [strI_at]
  cases s.data.toList[k]? with
  | none => simp
  | some b => simp [ten_iff]

theorem cut_none {s : ByteArray} (h : nlAt s = -1) : cutAX s = s ∧ cutZ s = ⟨#[]⟩ := by unfold cutAX cutZ; rw [h]; simp
theorem cut_some {s : ByteArray} {m : Nat} (h : nlAt s = m) : cutAX s = s.extract 0 m ∧ cutZ s = s.extract (m + 1) s.size := by
  unfold cutAX cutZ; rw [h]; simp only [show ¬ ((m : Int) < 0) by omega, if_false, Int.toNat_natCast]; exact ⟨trivial, trivial⟩
theorem cut_ten (s : ByteArray) : ∀ k : Nat, (cutAX s).data.toList[k]? ≠ some 10 := by
  intro k hk
  rw [← strI_ten] at hk
  rcases nl_cases s with ⟨e, h⟩ | ⟨m, e, hm, h1, h2⟩
  · rw [(cut_none e).1, strI_ten] at hk; exact h k hk
  · rw [(cut_some e).1, strI_extract] at hk
    have hlt := (List.getElem?_eq_some_iff.1 hk).1
    simp only [List.drop_zero, List.length_take] at hlt hk
    rw [List.getElem?_take_of_lt (by omega), strI_ten] at hk
    exact h2 k (by omega) hk
theorem linesF_empty (f n : Nat) (s : ByteArray) (h : s.size = 0) : linesF f n s = [] := by
  cases f with
  | zero => rfl
  | succ f => rw [linesF, if_pos h]
theorem linesF_step (f n : Nat) (s : ByteArray) (h : s.size ≠ 0) (hf : s.size ≤ f) : ∃ f', linesF f n s = (n, cutAX s) :: linesF f' (n + 1) (cutZ s) ∧ (cutZ s).size ≤ f' := by
  cases f with
  | zero => omega
  | succ f =>
    have := cutZ_size s h
    exact ⟨f, by rw [linesF, if_neg h], by omega⟩
theorem lines_at (f : Nat) : ∀ (n : Nat) (s : ByteArray) (k : Nat) (x : Nat × ByteArray), (linesF f n s)[k]? = some x → x.1 = n + k ∧ x.2.size ≤ s.size ∧ ∀ j : Nat, x.2.data.toList[j]? ≠ some 10 := by
  induction f with
  | zero => intro n s k x h; simp [linesF] at h
  | succ f ih =>
    intro n s k x h
    rw [linesF] at h
    split at h
    · simp at h
    · rename_i h0
      cases k with
      | zero =>
        simp at h; subst h
        exact ⟨rfl, cutA_size s, cut_ten s⟩
      | succ k =>
        simp at h
        obtain ⟨h1, h2, h3⟩ := ih _ _ _ _ h
        have := cutZ_size s h0
        exact ⟨by omega, by omega, h3⟩
theorem lines_len (f : Nat) : ∀ (n : Nat) (s : ByteArray), (linesF f n s).length ≤ s.size := by
  induction f with
  | zero => intro n s; simp [linesF]
  | succ f ih =>
    intro n s
    rw [linesF]
    split
    · simp
    · rename_i h0
      have := cutZ_size s h0
      have := ih (n + 1) (cutZ s)
      simp only [List.length_cons]; omega
theorem pre_at {s : ByteArray} {pre : List (Nat × ByteArray)} {x : Nat × ByteArray} (h : pre ++ [x] <+: linesT s) : x.1 = pre.length + 1 ∧ x.2.size ≤ s.size ∧ (∀ j : Nat, x.2.data.toList[j]? ≠ some 10) ∧ pre.length < (linesT s).length ∧ (linesT s)[pre.length]? = some x := by
  obtain ⟨r, e⟩ := h
  have e2 : (linesT s)[pre.length]? = some x := by rw [← e]; simp
  obtain ⟨h1, h2, h3⟩ := lines_at _ _ _ _ _ e2
  exact ⟨by omega, h2, h3, (List.getElem?_eq_some_iff.1 e2).1, e2⟩
end Go.Proofs.YtddkapkkjhomkabGreatDoor

/-
  What faultAt and the methods ended and take of a row of tokens return, of the layer asm.
-/
namespace Go.Proofs.YtddkapkkjhomkabGreatDoor
open Go.RowKit
set_option linter.unusedVariables false
set_option linter.unusedSimpArgs false
set_option maxRecDepth 10000

def noTok : TokT := (0, ⟨#[]⟩, 0)
/-- Where a fault is told: at 0, if there is none. -/
def fltA (e p : Int) : Int := if e = 0 then 0 else p

theorem blk_cells {w : World} {B T : Nat} {cs : Array Value} (h : w.heap[B]? = some (.cells cs T (0, 0))) : (∀ i, w.cell? ⟨B, i, none⟩ = cs[i]?) ∧ (∀ i, w.frozen? ⟨B, i, none⟩ = false) :=
  ⟨fun i => by simp only [World.cell?, h]; rfl, fun i => by simp [World.frozen?, h]⟩
theorem two_set {w : World} {B T : Nat} {z0 z1 : Value} (h : w.heap[B]? = some (.cells #[z0, z1] T (0, 0))) (u0 u1 : Value) :
    ((w.setCell ⟨B, 0, none⟩ u0).setCell ⟨B, 1, none⟩ u1).heap[B]? = some (.cells #[u0, u1] T (0, 0)) := by
  simp only [World.setCell, Array.getElem?_modify, h]; simp
theorem three_setA {w : World} {B T : Nat} {z0 z1 z2 : Value} (h : w.heap[B]? = some (.cells #[z0, z1, z2] T (0, 0))) (u0 u1 u2 : Value) :
    (((w.setCell ⟨B, 0, none⟩ u0).setCell ⟨B, 1, none⟩ u1).setCell ⟨B, 2, none⟩ u2).heap[B]? = some (.cells #[u0, u1, u2] T (0, 0)) := by
  simp only [World.setCell, Array.getElem?_modify, h]; simp

set_option maxHeartbeats 1000000 in
theorem faultAt_any (t : TokT) (e : Int) (w : World) :
    Calls Tryz.prog 146 #[tokV t, .int .i64 e] w fun x w' => x = .returned (.agg #[.int .i64 e, .int .i64 (fltA e t.2.2)]) ∧ Below w.heap.size w w' := by
  obtain ⟨t1, t2, t3⟩ := t
  unfold tokV
  simp only
  by_cases h : e = 0
  · subst h
    go_enter Tryz.func146, Tryz.ntmps146
    go_wp2
    refine bodyPost_ret (v := .agg #[.int .i64 0, .int .i64 0]) ?_ rfl ⟨rfl, ?_⟩
    · simp [results, Tryz.results146, go_sem]
    · exact ((Below.refl _ w).alloc (Nat.le_refl _) _).alloc (by simp) _
  · have h' : (e == 0) = false := by simpa using h
    have e1 : fltA e t3 = t3 := by unfold fltA; rw [if_neg h]
    rw [e1]
    clear h e1
    go_enter Tryz.func146, Tryz.ntmps146
    go_wp2
    refine bodyPost_ret (v := .agg #[.int .i64 e, .int .i64 t3]) ?_ rfl ⟨rfl, ?_⟩
    · simp [results, Tryz.results146, go_sem]
    · exact ((Below.refl _ w).alloc (Nat.le_refl _) _).alloc (by simp) _

/-- A row of tokens in memory, at the front of a block. -/
def RowAt (w : World) (B : Nat) (a : Option Addr) (n c k : Nat) (len : Int) (rest : Array Value) (T : Nat) : Prop := w.heap[B]? = some (.cells (#[.slice a n c, .int .i64 (k : Int), .int .i64 len] ++ rest) T (0, 0))
theorem RowAt.lt {w : World} {B : Nat} {a : Option Addr} {n c k : Nat} {len : Int} {rest : Array Value} {T : Nat} (h : RowAt w B a n c k len rest T) : B < w.heap.size := (Array.getElem?_eq_some_iff.1 h).1
theorem RowAt.cells {w : World} {B : Nat} {a : Option Addr} {n c k : Nat} {len : Int} {rest : Array Value} {T : Nat} (h : RowAt w B a n c k len rest T) :
    w.cell? ⟨B, 0, none⟩ = some (.slice a n c) ∧ w.cell? ⟨B, 1, none⟩ = some (.int .i64 (k : Int)) ∧ w.cell? ⟨B, 2, none⟩ = some (.int .i64 len) ∧ ∀ i, w.frozen? ⟨B, i, none⟩ = false := by
  unfold RowAt at h
  refine ⟨?_, ?_, ?_, fun i => ?_⟩
  · simp only [World.cell?, h]; rw [Array.getElem?_append_left (by simp)]; rfl
  · simp only [World.cell?, h]; rw [Array.getElem?_append_left (by simp)]; rfl
  · simp only [World.cell?, h]; rw [Array.getElem?_append_left (by simp)]; rfl
  · simp [World.frozen?, h]
theorem RowAt.below {w w' : World} {B : Nat} {a : Option Addr} {n c k : Nat} {len : Int} {rest : Array Value} {T : Nat} (h : RowAt w B a n c k len rest T) (hb : Below w.heap.size w w') : RowAt w' B a n c k len rest T := (hb.block _ h.lt).trans h
theorem RowAt.step {w : World} {B : Nat} {a : Option Addr} {n c k : Nat} {len : Int} {rest : Array Value} {T : Nat} (h : RowAt w B a n c k len rest T) : RowAt (w.setCell ⟨B, 1, none⟩ (.int .i64 ((k + 1 : Nat) : Int))) B a n c (k + 1) len rest T := by
  unfold RowAt at *
  simp only [World.setCell, Array.getElem?_modify, h]
  simp
theorem grown_put {w A X : World} {r : Option Nat} (h : w.grownBy A r) (k : Below w.heap.size A X) : w.grownBy X r := ⟨k.os.trans h.os, k.tape.trans h.tape, k.output.trans h.output, Nat.le_trans h.size k.size, fun i hi hr => (k.block i hi).trans (h.block i hi hr)⟩
theorem grown_below2 {A B : World} (h : Below A.heap.size A B) (row : Option Nat) : A.grownBy B row := ⟨h.os, h.tape, h.output, h.size, fun k hk _ => h.block k hk⟩

set_option maxHeartbeats 1000000 in
theorem ended_any (B : Nat) (a : Option Addr) (n c k : Nat) (len : Int) (rest : Array Value) (T : Nat) (w : World) (h : RowAt w B a n c k len rest T) :
    Calls Tryz.prog 93 #[.pointer (some ⟨B, 0, none⟩)] w fun e w' => e = .returned (.bool ((k : Int) == (n : Int))) ∧ ∃ q, w' = w.drewN q := by
  obtain ⟨c0, c1, c2, cf⟩ := h.cells
  clear h
  go_enter Tryz.func93, Tryz.ntmps93
  go_wp2
  go_quiet (fail)
  go_wp2
  go_ret
  exact ⟨rfl, _, rfl⟩

/-- The two results' boxes. -/
theorem tok_spot_boxes (w : World) : ((w.alloc (.cells #[.int .u8 0, .string ⟨#[]⟩, .int .i64 0] 41)).alloc (.cells #[.int .i64 0, .int .i64 0] 28)).heap[w.heap.size]? = some (.cells #[.int .u8 0, .string ⟨#[]⟩, .int .i64 0] 41 (0, 0)) ∧ ((w.alloc (.cells #[.int .u8 0, .string ⟨#[]⟩, .int .i64 0] 41)).alloc (.cells #[.int .i64 0, .int .i64 0] 28)).heap[w.heap.size + 1]? = some (.cells #[.int .i64 0, .int .i64 0] 28 (0, 0)) ∧
    Below w.heap.size w ((w.alloc (.cells #[.int .u8 0, .string ⟨#[]⟩, .int .i64 0] 41)).alloc (.cells #[.int .i64 0, .int .i64 0] 28)) :=
  ⟨(Below.heap_alloc _ _ _ (by simp)).trans (heap_alloc_new w _), by simpa using heap_alloc_new (w.alloc (.cells #[.int .u8 0, .string ⟨#[]⟩, .int .i64 0] 41)) (.cells #[.int .i64 0, .int .i64 0] 28), ((Below.refl _ w).alloc (Nat.le_refl _) _).alloc (by simp) _⟩

/-- Both boxes are written. -/
theorem five_put {W : World} {b T S : Nat} {x0 x1 x2 y0 y1 : Value} (kT : W.heap[b]? = some (.cells #[x0, x1, x2] T (0, 0))) (kS : W.heap[b + 1]? = some (.cells #[y0, y1] S (0, 0))) (u0 u1 u2 v0 v1 : Value) :
    ((((((W.setCell ⟨b, 0, none⟩ u0).setCell ⟨b, 1, none⟩ u1).setCell ⟨b, 2, none⟩ u2).setCell ⟨b + 1, 0, none⟩ v0).setCell ⟨b + 1, 1, none⟩ v1)).heap[b]? = some (.cells #[u0, u1, u2] T (0, 0)) ∧ ((((((W.setCell ⟨b, 0, none⟩ u0).setCell ⟨b, 1, none⟩ u1).setCell ⟨b, 2, none⟩ u2).setCell ⟨b + 1, 0, none⟩ v0).setCell ⟨b + 1, 1, none⟩ v1)).heap[b + 1]? = some (.cells #[v0, v1] S (0, 0)) ∧ Below b W ((((((W.setCell ⟨b, 0, none⟩ u0).setCell ⟨b, 1, none⟩ u1).setCell ⟨b, 2, none⟩ u2).setCell ⟨b + 1, 0, none⟩ v0).setCell ⟨b + 1, 1, none⟩ v1)) := by
  refine ⟨?_, ?_, ?_⟩
  · simp only [World.setCell, Array.getElem?_modify, kT]; simp
  · simp only [World.setCell, Array.getElem?_modify, kS]; simp
  · exact (((((Below.refl b W).setCell (Nat.le_refl _) _).setCell (Nat.le_refl _) _).setCell (Nat.le_refl _) _).setCell (by simp) _).setCell (by simp) _
theorem five_drew {W : World} {b T S : Nat} {x0 x1 x2 y0 y1 : Value} (kT : W.heap[b]? = some (.cells #[x0, x1, x2] T (0, 0))) (kS : W.heap[b + 1]? = some (.cells #[y0, y1] S (0, 0))) (u0 u1 u2 v0 v1 : Value) :
    (((((((W.setCell ⟨b, 0, none⟩ u0).setCell ⟨b, 1, none⟩ u1).setCell ⟨b, 2, none⟩ u2).setCell ⟨b + 1, 0, none⟩ v0).setCell ⟨b + 1, 1, none⟩ v1)).drew).heap[b]? = some (.cells #[u0, u1, u2] T (0, 0)) ∧ (((((((W.setCell ⟨b, 0, none⟩ u0).setCell ⟨b, 1, none⟩ u1).setCell ⟨b, 2, none⟩ u2).setCell ⟨b + 1, 0, none⟩ v0).setCell ⟨b + 1, 1, none⟩ v1)).drew).heap[b + 1]? = some (.cells #[v0, v1] S (0, 0)) ∧ Below b W (((((((W.setCell ⟨b, 0, none⟩ u0).setCell ⟨b, 1, none⟩ u1).setCell ⟨b, 2, none⟩ u2).setCell ⟨b + 1, 0, none⟩ v0).setCell ⟨b + 1, 1, none⟩ v1)).drew) := by
  obtain ⟨h1, h2, h3⟩ := five_put kT kS u0 u1 u2 v0 v1
  generalize ((((((W.setCell ⟨b, 0, none⟩ u0).setCell ⟨b, 1, none⟩ u1).setCell ⟨b, 2, none⟩ u2).setCell ⟨b + 1, 0, none⟩ v0).setCell ⟨b + 1, 1, none⟩ v1)) = Y at *
  exact ⟨h1, h2, h3.drew⟩

set_option maxHeartbeats 2000000 in
theorem take_early (B : Nat) (a : Option Addr) (n c : Nat) (len : Int) (rest : Array Value) (T : Nat) (kd : Int) (w : World) (h : RowAt w B a n c n len rest T) :
    Calls Tryz.prog 145 #[.pointer (some ⟨B, 0, none⟩), .int .u8 kd] w fun e w' => e = .returned (.tuple #[tokV noTok, .agg #[.int .i64 72, .int .i64 len]]) ∧ Below w.heap.size w w' := by
  obtain ⟨kT, kS, hb⟩ := tok_spot_boxes w
  have hR := h.below hb
  have hE := ended_any B a n c n len rest T _ hR
  rw [show ((n : Int) == (n : Int)) = true by simp] at hE
  have hlt := h.lt
  clear h
  go_enter Tryz.func145, Tryz.ntmps145
  go_wp2_with fail
  generalize (w.alloc (.cells #[.int .u8 0, .string ⟨#[]⟩, .int .i64 0] 41)).alloc (.cells #[.int .i64 0, .int .i64 0] 28) = W at *
  refine hE.mono ?_
  rintro e w1 ⟨rfl, q, rfl⟩
  have hbq := bel_drewN (Below.refl W.heap.size W) q
  have sS := (Array.getElem?_eq_some_iff.1 kS).1
  have kT1 := (hbq.block _ (by omega)).trans kT
  have kS1 := (hbq.block _ sS).trans kS
  have hR1 := hR.below hbq
  have hb1 := hb.trans (hbq.mono hb.size)
  have s1 : w.heap.size + 1 < (W.drewN q).heap.size := Nat.lt_of_lt_of_le sS hbq.size
  clear hE hbq kT kS hR hb sS
  generalize W.drewN q = W1 at *
  obtain ⟨r0, r1, r2, rf⟩ := hR1.cells
  obtain ⟨ct, ft⟩ := blk_cells kT1
  obtain ⟨cp, fp⟩ := blk_cells kS1
  have t0 := ct 0
  have t1 := ct 1
  have t2 := ct 2
  have p0 := cp 0
  have p1 := cp 1
  have hne : B ≠ w.heap.size := by omega
  have hne1 : B ≠ w.heap.size + 1 := by omega
  have HB := hide hb1
  have HT := hide kT1
  have HS := hide kS1
  clear hR1 hb1 ct cp kT1 kS1
  go_wp2
  go_region
  obtain ⟨y1, y2, y3⟩ := five_drew HT.out HS.out (.int .u8 0) (.string ⟨#[]⟩) (.int .i64 0) (.int .i64 72) (.int .i64 len)
  have HY := hide (HB.out.trans y3)
  have HY1 := hide y1
  have HY2 := hide y2
  clear t0 t1 t2 p0 p1 ft fp r0 r1 r2 rf y1 y2 y3 HT HS HB
  generalize (((((W1.setCell ⟨w.heap.size, 0, none⟩ (.int .u8 0)).setCell ⟨w.heap.size, 1, none⟩ (.string ⟨#[]⟩)).setCell ⟨w.heap.size, 2, none⟩ (.int .i64 0)).setCell ⟨w.heap.size + 1, 0, none⟩ (.int .i64 72)).setCell ⟨w.heap.size + 1, 1, none⟩ (.int .i64 len)).drew = X at *
  go_wp2
  obtain ⟨z1, _⟩ := blk_cells HY1.out
  obtain ⟨z2, _⟩ := blk_cells HY2.out
  have a0 := z1 0
  have a1 := z1 1
  have a2 := z1 2
  have b0 := z2 0
  have b1 := z2 1
  refine bodyPost_ret (v := .tuple #[tokV noTok, .agg #[.int .i64 72, .int .i64 len]]) ?_ rfl ⟨rfl, HY.out⟩
  simp [results, Tryz.results145, go_sem, a0, a1, a2, b0, b1, tokV, noTok]

end Go.Proofs.YtddkapkkjhomkabGreatDoor

/-
  What the methods of wanted return, of the layer asm: an argument of a text, or what is wrong with it.
-/
namespace Go.Proofs.YtddkapkkjhomkabGreatDoor
open Go.RowKit
set_option linter.unusedVariables false
set_option linter.unusedSimpArgs false
set_option maxRecDepth 10000

/-- The boxes of a method of wanted. -/
theorem want_boxes (w : World) (c b : Int) : ((w.alloc (.cells #[.int .u8 c, .int .u32 b] 245)).alloc (.cells #[.int .u8 0, .int .u32 0, .string ⟨#[]⟩] 87)).heap[w.heap.size]? = some (.cells #[.int .u8 c, .int .u32 b] 245 (0, 0)) ∧ ((w.alloc (.cells #[.int .u8 c, .int .u32 b] 245)).alloc (.cells #[.int .u8 0, .int .u32 0, .string ⟨#[]⟩] 87)).heap[w.heap.size + 1]? = some (.cells #[.int .u8 0, .int .u32 0, .string ⟨#[]⟩] 87 (0, 0)) ∧ Below w.heap.size w ((w.alloc (.cells #[.int .u8 c, .int .u32 b] 245)).alloc (.cells #[.int .u8 0, .int .u32 0, .string ⟨#[]⟩] 87)) :=
  ⟨(Below.heap_alloc _ _ _ (by simp)).trans (heap_alloc_new w _), by simpa using heap_alloc_new (w.alloc (.cells #[.int .u8 c, .int .u32 b] 245)) (.cells #[.int .u8 0, .int .u32 0, .string ⟨#[]⟩] 87), ((Below.refl _ w).alloc (Nat.le_refl _) _).alloc (by simp) _⟩
theorem arg_put {W : World} {g T : Nat} {x0 x1 x2 : Value} (k : W.heap[g]? = some (.cells #[x0, x1, x2] T (0, 0))) (u0 u1 u2 : Value) : (((W.setCell ⟨g, 0, none⟩ u0).setCell ⟨g, 1, none⟩ u1).setCell ⟨g, 2, none⟩ u2).heap[g]? = some (.cells #[u0, u1, u2] T (0, 0)) ∧ Below g W (((W.setCell ⟨g, 0, none⟩ u0).setCell ⟨g, 1, none⟩ u1).setCell ⟨g, 2, none⟩ u2) :=
  ⟨three_setA k u0 u1 u2, (((Below.refl g W).setCell (Nat.le_refl _) _).setCell (Nat.le_refl _) _).setCell (Nat.le_refl _) _⟩

set_option maxHeartbeats 2000000 in
theorem wantNone_any (c b : Int) (s : ByteArray) (w : World) :
    Calls Tryz.prog 176 #[.agg #[.int .u8 c, .int .u32 b], .string s] w fun e w' => e = .returned (.tuple #[argV noArg, .int .i64 70]) ∧ Below w.heap.size w w' := by
  obtain ⟨k0, k1, hb⟩ := want_boxes w c b
  go_enter Tryz.func176, Tryz.ntmps176
  go_wp2
  refine bodyPost_ret (v := .tuple #[argV noArg, .int .i64 70]) ?_ rfl ⟨rfl, hb⟩
  simp [results, Tryz.results176, go_sem, argV, noArg]

set_option maxHeartbeats 2000000 in
theorem wantNumber_any (c b : Int) (s : ByteArray) (w : World) (hs : s.size ≤ 140737488351232) :
    Calls Tryz.prog 173 #[.agg #[.int .u8 c, .int .u32 b], .string s] w fun e w' => e = .returned (.tuple #[argV (if numErr (strI s) = 0 then (2, numV (strI s), ⟨#[]⟩) else noArg), .int .i64 (numErr (strI s))]) ∧ Below w.heap.size w w' := by
  obtain ⟨k0, k1, hb⟩ := want_boxes w c b
  have hN := fun wx => lexNumber_any s wx hs
  have HV := hide (fun h => (numV_ok (numErr_zero (l := strI s) h)).2.1)
  obtain ⟨A, hA⟩ : ∃ A, A = (if numErr (strI s) = 0 then (2, numV (strI s), ⟨#[]⟩) else noArg : ArgT) := ⟨_, rfl⟩
  rw [← hA]
  generalize numErr (strI s) = ne at *
  generalize numOut (strI s) = no at *
  have HA := hide hA
  have HK := hide k1
  have HB := hide hb
  clear hA k0 k1 hb
  go_enter Tryz.func173, Tryz.ntmps173
  go_wp2_with fail
  generalize (w.alloc (.cells #[.int .u8 c, .int .u32 b] 245)).alloc (.cells #[.int .u8 0, .int .u32 0, .string ⟨#[]⟩] 87) = W at *
  refine (hN _).mono ?_
  rintro x w' ⟨rfl, rfl⟩
  obtain ⟨cc, cf⟩ := blk_cells HK.out
  have c0 := cc 0
  have c1 := cc 1
  have c2 := cc 2
  by_cases h : ne = 0
  · subst h
    have e9 := HA.out
    rw [if_pos rfl, ← HV.out (by trivial)] at e9
    subst e9
    obtain ⟨x1, x2⟩ := arg_put HK.out (.int .u8 2) (.int .u32 no) (.string ⟨#[]⟩)
    have HY := hide (HB.out.trans (x2.mono (by omega)))
    have HY1 := hide x1
    clear x1 x2 hN HK HB HA HV cc
    go_wp2_with fail
    generalize ((W.setCell ⟨w.heap.size + 1, 0, none⟩ (.int .u8 2)).setCell ⟨w.heap.size + 1, 1, none⟩ (.int .u32 no)).setCell ⟨w.heap.size + 1, 2, none⟩ (.string ⟨#[]⟩) = X at *
    obtain ⟨e1, _⟩ := blk_cells HY1.out
    have a0 := e1 0
    have a1 := e1 1
    have a2 := e1 2
    refine bodyPost_ret (v := .tuple #[argV (2, no, ⟨#[]⟩), .int .i64 0]) ?_ rfl ⟨rfl, HY.out⟩
    simp [results, Tryz.results173, go_sem, argV, a0, a1, a2]
  · have h' : (ne != 0) = true := by simp [h]
    have e9 := HA.out
    rw [if_neg h] at e9
    subst e9
    obtain ⟨x1, x2⟩ := arg_put HK.out (.int .u8 0) (.int .u32 0) (.string ⟨#[]⟩)
    have HY := hide (HB.out.trans (x2.mono (by omega)))
    have HY1 := hide x1
    clear x1 x2 hN HK HB HA HV cc h
    go_wp2_with fail
    generalize ((W.setCell ⟨w.heap.size + 1, 0, none⟩ (.int .u8 0)).setCell ⟨w.heap.size + 1, 1, none⟩ (.int .u32 0)).setCell ⟨w.heap.size + 1, 2, none⟩ (.string ⟨#[]⟩) = X at *
    obtain ⟨e1, _⟩ := blk_cells HY1.out
    have a0 := e1 0
    have a1 := e1 1
    have a2 := e1 2
    refine bodyPost_ret (v := .tuple #[argV noArg, .int .i64 ne]) ?_ rfl ⟨rfl, HY.out⟩
    simp [results, Tryz.results173, go_sem, argV, noArg, a0, a1, a2]

set_option maxHeartbeats 2000000 in
theorem wantId_any (c b : Int) (s : ByteArray) (w : World) (hs : s.size ≤ 140737488351232) :
    Calls Tryz.prog 164 #[.agg #[.int .u8 c, .int .u32 b], .string s] w fun e w' => e = .returned (.tuple #[argV (if idP s b = 0 then (1, numV (strI s), ⟨#[]⟩) else noArg), .int .i64 (idP s b)]) ∧ Below w.heap.size w w' := by
  obtain ⟨k0, k1, hb⟩ := want_boxes w c b
  have hN := fun wx => lexNumber_any s wx hs
  have HV := hide (fun h => (numV_ok (numErr_zero (l := strI s) h)))
  obtain ⟨A, hA⟩ : ∃ A, A = (if idP s b = 0 then (1, numV (strI s), ⟨#[]⟩) else noArg : ArgT) := ⟨_, rfl⟩
  obtain ⟨I, hI⟩ : ∃ I, I = idP s b := ⟨_, rfl⟩
  rw [← hA, ← hI]
  rw [← hI] at hA
  have hI2 : (numErr (strI s) ≠ 0 → I = 62 ∧ numErr (strI s) = 62) ∧ (numErr (strI s) = 0 → I = if numV (strI s) = 0 ∨ b ≤ numV (strI s) then 43 else 0) := by
    rw [hI]; unfold idP
    constructor
    · intro h
      have hb : numB (strI s) = false := by
        cases e : numB (strI s) with
        | false => rfl
        | true => exact absurd (numV_ok e).1 h
      rw [if_pos hb]
      refine ⟨rfl, ?_⟩
      unfold numErr; rw [hb]; rfl
    · intro h
      rw [if_neg (by rw [numErr_zero h]; simp)]
  have HI2 := hide hI2
  clear hI hI2
  generalize numErr (strI s) = ne at *
  generalize numOut (strI s) = no at *
  have HA := hide hA
  have HK := hide k1
  have HB := hide hb
  have HK0 := hide k0
  clear hA k0 k1 hb
  go_enter Tryz.func164, Tryz.ntmps164
  go_wp2_with fail
  generalize (w.alloc (.cells #[.int .u8 c, .int .u32 b] 245)).alloc (.cells #[.int .u8 0, .int .u32 0, .string ⟨#[]⟩] 87) = W at *
  refine (hN _).mono ?_
  rintro x w' ⟨rfl, rfl⟩
  obtain ⟨cc, cf⟩ := blk_cells HK.out
  have c0 := cc 0
  have c1 := cc 1
  have c2 := cc 2
  have d1 := (blk_cells HK0.out).1 1
  clear hN HK0
  by_cases h : ne = 0
  · subst h
    obtain ⟨_, f2, f3, f4⟩ := HV.out (by trivial)
    have hi := HI2.out.2 (by trivial)
    rw [← f2] at hi f3 f4
    have HF2 := hide f2
    clear HV HI2 f2
    by_cases hbad : no = 0 ∨ b ≤ no
    · rw [if_pos hbad] at hi
      subst hi
      have e9 := HA.out
      rw [if_neg (by decide)] at e9
      subst e9
      by_cases h0 : no = 0
      · subst h0
        clear hbad
        obtain ⟨x1, x2⟩ := arg_put HK.out (.int .u8 0) (.int .u32 0) (.string ⟨#[]⟩)
        have HY := hide (HB.out.trans (x2.mono (by omega)))
        have HY1 := hide x1
        clear x1 x2 HK HB HA cc
        go_wp2_with fail
        generalize ((W.setCell ⟨w.heap.size + 1, 0, none⟩ (.int .u8 0)).setCell ⟨w.heap.size + 1, 1, none⟩ (.int .u32 0)).setCell ⟨w.heap.size + 1, 2, none⟩ (.string ⟨#[]⟩) = X at *
        obtain ⟨e1, _⟩ := blk_cells HY1.out
        have a0 := e1 0
        have a1 := e1 1
        have a2 := e1 2
        refine bodyPost_ret (v := .tuple #[argV noArg, .int .i64 43]) ?_ rfl ⟨rfl, HY.out⟩
        simp [results, Tryz.results164, go_sem, argV, noArg, a0, a1, a2]
      · have h0' : (no == 0) = false := by simpa using h0
        have h1' : decide (b ≤ no) = true := decide_eq_true (by omega)
        clear hbad h0
        obtain ⟨x1, x2⟩ := arg_put HK.out (.int .u8 0) (.int .u32 0) (.string ⟨#[]⟩)
        have HY := hide (HB.out.trans (x2.mono (by omega)))
        have HY1 := hide x1
        clear x1 x2 HK HB HA cc
        go_wp2_with fail
        generalize ((W.setCell ⟨w.heap.size + 1, 0, none⟩ (.int .u8 0)).setCell ⟨w.heap.size + 1, 1, none⟩ (.int .u32 0)).setCell ⟨w.heap.size + 1, 2, none⟩ (.string ⟨#[]⟩) = X at *
        obtain ⟨e1, _⟩ := blk_cells HY1.out
        have a0 := e1 0
        have a1 := e1 1
        have a2 := e1 2
        refine bodyPost_ret (v := .tuple #[argV noArg, .int .i64 43]) ?_ rfl ⟨rfl, HY.out⟩
        simp [results, Tryz.results164, go_sem, argV, noArg, a0, a1, a2]
    · rw [if_neg hbad] at hi
      subst hi
      have e9 := HA.out
      rw [if_pos rfl, ← HF2.out] at e9
      subst e9
      have h0' : (no == 0) = false := by simp; omega
      have h1' : decide (b ≤ no) = false := decide_eq_false (by omega)
      clear hbad
      obtain ⟨x1, x2⟩ := arg_put HK.out (.int .u8 1) (.int .u32 no) (.string ⟨#[]⟩)
      have HY := hide (HB.out.trans (x2.mono (by omega)))
      have HY1 := hide x1
      clear x1 x2 HK HB HA cc
      go_wp2_with fail
      generalize ((W.setCell ⟨w.heap.size + 1, 0, none⟩ (.int .u8 1)).setCell ⟨w.heap.size + 1, 1, none⟩ (.int .u32 no)).setCell ⟨w.heap.size + 1, 2, none⟩ (.string ⟨#[]⟩) = X at *
      obtain ⟨e1, _⟩ := blk_cells HY1.out
      have a0 := e1 0
      have a1 := e1 1
      have a2 := e1 2
      refine bodyPost_ret (v := .tuple #[argV (1, no, ⟨#[]⟩), .int .i64 0]) ?_ rfl ⟨rfl, HY.out⟩
      simp [results, Tryz.results164, go_sem, argV, noArg, a0, a1, a2]
  · have h' : (ne != 0) = true := by simp [h]
    obtain ⟨hi, rfl⟩ := HI2.out.1 h
    subst hi
    have e9 := HA.out
    rw [if_neg (by decide)] at e9
    subst e9
    clear h HI2 HV
    obtain ⟨x1, x2⟩ := arg_put HK.out (.int .u8 0) (.int .u32 0) (.string ⟨#[]⟩)
    have HY := hide (HB.out.trans (x2.mono (by omega)))
    have HY1 := hide x1
    clear x1 x2 HK HB HA cc
    go_wp2_with fail
    generalize ((W.setCell ⟨w.heap.size + 1, 0, none⟩ (.int .u8 0)).setCell ⟨w.heap.size + 1, 1, none⟩ (.int .u32 0)).setCell ⟨w.heap.size + 1, 2, none⟩ (.string ⟨#[]⟩) = X at *
    obtain ⟨e1, _⟩ := blk_cells HY1.out
    have a0 := e1 0
    have a1 := e1 1
    have a2 := e1 2
    refine bodyPost_ret (v := .tuple #[argV noArg, .int .i64 62]) ?_ rfl ⟨rfl, HY.out⟩
    simp [results, Tryz.results164, go_sem, argV, noArg, a0, a1, a2]

set_option maxHeartbeats 2000000 in
theorem wantEnum_any (c b : Int) (s : ByteArray) (w : World) :
    Calls Tryz.prog 175 #[.agg #[.int .u8 c, .int .u32 b], .string s] w fun e w' => e = .returned (.tuple #[argV (if enumNB c s = true then (4, enumN c s, ⟨#[]⟩) else noArg), .int .i64 (if enumNB c s = true then 0 else 71)]) ∧ Below w.heap.size w w' := by
  obtain ⟨k0, k1, hb⟩ := want_boxes w c b
  have hN := fun wx => enumNamed_any c s wx
  obtain ⟨A, hA⟩ : ∃ A, A = (if enumNB c s = true then (4, enumN c s, ⟨#[]⟩) else noArg : ArgT) := ⟨_, rfl⟩
  obtain ⟨I, hI⟩ : ∃ I, I = (if enumNB c s = true then 0 else 71 : Int) := ⟨_, rfl⟩
  rw [← hA, ← hI]
  generalize enumNB c s = eb at *
  generalize enumN c s = en at *
  have HA0 := hide hA
  have HI := hide hI
  have HK0 := hide k1
  have HB0 := hide hb
  clear hA hI k0 k1 hb
  go_enter Tryz.func175, Tryz.ntmps175
  go_wp2_with fail
  generalize (w.alloc (.cells #[.int .u8 c, .int .u32 b] 245)).alloc (.cells #[.int .u8 0, .int .u32 0, .string ⟨#[]⟩] 87) = W0 at *
  refine (hN _).mono ?_
  rintro x W ⟨rfl, hbw⟩
  have HK := hide ((hbw.block _ (Array.getElem?_eq_some_iff.1 HK0.out).1).trans HK0.out)
  have HB := hide (HB0.out.trans (hbw.mono HB0.out.size))
  obtain ⟨cc, cf⟩ := blk_cells HK.out
  have c0 := cc 0
  have c1 := cc 1
  have c2 := cc 2
  clear hN HK0 HB0 hbw
  have HA := HA0
  cases eb
  · have e9 := HA.out
    have e8 := HI.out
    rw [if_neg (by decide)] at e9 e8
    subst e9 e8
    clear HA0 HI
    obtain ⟨x1, x2⟩ := arg_put HK.out (.int .u8 0) (.int .u32 0) (.string ⟨#[]⟩)
    have HY := hide (HB.out.trans (x2.mono (by omega)))
    have HY1 := hide x1
    clear x1 x2 HK HB HA cc
    go_wp2_with fail
    generalize ((W.setCell ⟨w.heap.size + 1, 0, none⟩ (.int .u8 0)).setCell ⟨w.heap.size + 1, 1, none⟩ (.int .u32 0)).setCell ⟨w.heap.size + 1, 2, none⟩ (.string ⟨#[]⟩) = X at *
    obtain ⟨e1, _⟩ := blk_cells HY1.out
    have a0 := e1 0
    have a1 := e1 1
    have a2 := e1 2
    refine bodyPost_ret (v := .tuple #[argV noArg, .int .i64 71]) ?_ rfl ⟨rfl, HY.out⟩
    simp [results, Tryz.results175, go_sem, argV, noArg, a0, a1, a2]
  · have e9 := HA.out
    have e8 := HI.out
    rw [if_pos rfl] at e9 e8
    subst e9 e8
    clear HA0 HI
    obtain ⟨x1, x2⟩ := arg_put HK.out (.int .u8 4) (.int .u32 en) (.string ⟨#[]⟩)
    have HY := hide (HB.out.trans (x2.mono (by omega)))
    have HY1 := hide x1
    clear x1 x2 HK HB HA cc
    go_wp2_with fail
    generalize ((W.setCell ⟨w.heap.size + 1, 0, none⟩ (.int .u8 4)).setCell ⟨w.heap.size + 1, 1, none⟩ (.int .u32 en)).setCell ⟨w.heap.size + 1, 2, none⟩ (.string ⟨#[]⟩) = X at *
    obtain ⟨e1, _⟩ := blk_cells HY1.out
    have a0 := e1 0
    have a1 := e1 1
    have a2 := e1 2
    refine bodyPost_ret (v := .tuple #[argV (4, en, ⟨#[]⟩), .int .i64 0]) ?_ rfl ⟨rfl, HY.out⟩
    simp [results, Tryz.results175, go_sem, argV, noArg, a0, a1, a2]

theorem nul_index (s : ByteArray) : decide ((0 : Int) ≤ Lib.indexByte s.data.toList (0 : Int).toNat.toUInt8) = nulS s := by
  cases e : nulS s with
  | false =>
    rw [index_none s (nulS_false.1 e)]; rfl
  | true =>
    obtain ⟨k, hk, h0⟩ := nulS_true e
    apply decide_eq_true
    apply Classical.byContradiction
    intro hn
    have h1 := Lib.indexByte_ge s.data.toList (0 : Int).toNat.toUInt8
    have h2 : Lib.indexByte s.data.toList (0 : Int).toNat.toUInt8 = -1 := by omega
    have h3 := Lib.indexByte_none h2 k
    apply h3
    rw [nth_strI s k hk] at h0
    have hl : k < s.data.toList.length := by rw [size_list]; exact hk
    rw [List.getElem?_eq_getElem hl]
    have e2 : s.data.toList[k] = s[k] := rfl
    rw [e2]
    congr 1
    apply UInt8.toNat_inj.1
    simp; omega

set_option maxHeartbeats 2000000 in
theorem wantText_any (c b : Int) (s : ByteArray) (w : World) :
    Calls Tryz.prog 174 #[.agg #[.int .u8 c, .int .u32 b], .string s] w fun e w' => e = .returned (.tuple #[argV (if nulS s = true then noArg else (3, 0, s)), .int .i64 (if nulS s = true then 13 else 0)]) ∧ Below w.heap.size w w' := by
  obtain ⟨k0, k1, hb⟩ := want_boxes w c b
  have hN := fun wx => indexByte_any s wx
  have hd := nul_index s
  obtain ⟨A, hA⟩ : ∃ A, A = (if nulS s = true then noArg else (3, 0, s) : ArgT) := ⟨_, rfl⟩
  obtain ⟨I, hI⟩ : ∃ I, I = (if nulS s = true then 13 else 0 : Int) := ⟨_, rfl⟩
  rw [← hA, ← hI]
  generalize Lib.indexByte s.data.toList (0 : Int).toNat.toUInt8 = ib at *
  generalize nulS s = eb at *
  have HA := hide hA
  have HI := hide hI
  have HK := hide k1
  have HB := hide hb
  clear hA hI k0 k1 hb
  go_enter Tryz.func174, Tryz.ntmps174
  go_wp2_with fail
  generalize (w.alloc (.cells #[.int .u8 c, .int .u32 b] 245)).alloc (.cells #[.int .u8 0, .int .u32 0, .string ⟨#[]⟩] 87) = W at *
  refine (hN _).mono ?_
  rintro x w' ⟨rfl, rfl⟩
  obtain ⟨cc, cf⟩ := blk_cells HK.out
  have c0 := cc 0
  have c1 := cc 1
  have c2 := cc 2
  clear hN
  cases eb
  · have e9 := HA.out
    have e8 := HI.out
    rw [if_neg (by decide)] at e9 e8
    subst e9 e8
    clear HI
    obtain ⟨x1, x2⟩ := arg_put HK.out (.int .u8 3) (.int .u32 0) (.string s)
    have HY := hide (HB.out.trans (x2.mono (by omega)))
    have HY1 := hide x1
    clear x1 x2 HK HB HA cc
    go_wp2_with fail
    generalize ((W.setCell ⟨w.heap.size + 1, 0, none⟩ (.int .u8 3)).setCell ⟨w.heap.size + 1, 1, none⟩ (.int .u32 0)).setCell ⟨w.heap.size + 1, 2, none⟩ (.string s) = X at *
    obtain ⟨e1, _⟩ := blk_cells HY1.out
    have a0 := e1 0
    have a1 := e1 1
    have a2 := e1 2
    refine bodyPost_ret (v := .tuple #[argV (3, 0, s), .int .i64 0]) ?_ rfl ⟨rfl, HY.out⟩
    simp [results, Tryz.results174, go_sem, argV, noArg, a0, a1, a2]
  · have e9 := HA.out
    have e8 := HI.out
    rw [if_pos rfl] at e9 e8
    subst e9 e8
    clear HI
    obtain ⟨x1, x2⟩ := arg_put HK.out (.int .u8 0) (.int .u32 0) (.string ⟨#[]⟩)
    have HY := hide (HB.out.trans (x2.mono (by omega)))
    have HY1 := hide x1
    clear x1 x2 HK HB HA cc
    go_wp2_with fail
    generalize ((W.setCell ⟨w.heap.size + 1, 0, none⟩ (.int .u8 0)).setCell ⟨w.heap.size + 1, 1, none⟩ (.int .u32 0)).setCell ⟨w.heap.size + 1, 2, none⟩ (.string ⟨#[]⟩) = X at *
    obtain ⟨e1, _⟩ := blk_cells HY1.out
    have a0 := e1 0
    have a1 := e1 1
    have a2 := e1 2
    refine bodyPost_ret (v := .tuple #[argV noArg, .int .i64 13]) ?_ rfl ⟨rfl, HY.out⟩
    simp [results, Tryz.results174, go_sem, argV, noArg, a0, a1, a2]

/-- The method that takes an argument of a letter. -/
def takerN (c : Int) : Nat := if kindI c = 1 then 164 else if kindI c = 2 then 173 else if kindI c = 3 then 174 else if kindI c = 4 then 175 else 176
theorem taken_any (c b : Int) (s : ByteArray) (w : World) (hs : s.size ≤ 140737488351232) :
    Calls Tryz.prog (takerN c) #[.agg #[.int .u8 c, .int .u32 b], .string s] w fun e w' => e = .returned (.tuple #[argV (txtA c s b), .int .i64 (txtE c s b)]) ∧ Below w.heap.size w w' := by
  unfold takerN
  by_cases h1 : kindI c = 1
  · have e1 : txtE c s b = idP s b := by unfold txtE; rw [if_pos h1]
    have e2 : txtA c s b = if idP s b = 0 then (1, numV (strI s), ⟨#[]⟩) else noArg := by
      unfold txtA; rw [e1, if_pos h1]; by_cases h0 : idP s b = 0 <;> simp [h0]
    rw [if_pos h1, e1, e2]; exact wantId_any c b s w hs
  · rw [if_neg h1]
    by_cases h2 : kindI c = 2
    · have e1 : txtE c s b = numErr (strI s) := by unfold txtE; rw [if_neg h1, if_pos h2]
      have e2 : txtA c s b = if numErr (strI s) = 0 then (2, numV (strI s), ⟨#[]⟩) else noArg := by
        unfold txtA; rw [e1, if_neg h1, if_pos h2]; by_cases h0 : numErr (strI s) = 0 <;> simp [h0]
      rw [if_pos h2, e1, e2]; exact wantNumber_any c b s w hs
    · rw [if_neg h2]
      by_cases h3 : kindI c = 3
      · have e1 : txtE c s b = if nulS s = true then 13 else 0 := by unfold txtE; rw [if_neg h1, if_neg h2, if_pos h3]
        have e2 : txtA c s b = if nulS s = true then noArg else (3, 0, s) := by
          unfold txtA; rw [e1, if_neg h1, if_neg h2, if_pos h3]; cases nulS s <;> simp
        rw [if_pos h3, e1, e2]; exact wantText_any c b s w
      · rw [if_neg h3]
        by_cases h4 : kindI c = 4
        · have e1 : txtE c s b = if enumNB c s = true then 0 else 71 := by unfold txtE; rw [if_neg h1, if_neg h2, if_neg h3, if_pos h4]
          have e2 : txtA c s b = if enumNB c s = true then (4, enumN c s, ⟨#[]⟩) else noArg := by
            unfold txtA; rw [e1, if_neg h1, if_neg h2, if_neg h3]; cases enumNB c s <;> simp
          rw [if_pos h4, e1, e2]; exact wantEnum_any c b s w
        · have e1 : txtE c s b = 70 := by unfold txtE; rw [if_neg h1, if_neg h2, if_neg h3, if_neg h4]
          have e2 : txtA c s b = noArg := by unfold txtA; rw [e1, if_pos (by decide)]
          rw [if_neg h4, e1, e2]; exact wantNone_any c b s w

set_option maxHeartbeats 4000000 in
theorem taker_any7 (c b : Int) (w : World) :
    Calls Tryz.prog 165 #[.agg #[.int .u8 c, .int .u32 b]] w fun e w' => e = .returned (.tuple #[.int .u8 (takeK c), .func (.func (takerN c)) #[.agg #[.int .u8 c, .int .u32 b]] #[]]) ∧ Below w.heap.size w w' := by
  have hK := fun wx => kind_any c wx
  have hT := takerN
  unfold takeK takerN
  have hr := kindI_most c
  generalize kindI c = kd at *
  have hb : Below w.heap.size w (w.alloc (.cells #[.int .u8 c, .int .u32 b] 245)) := (Below.refl _ w).alloc (Nat.le_refl _) _
  have hkd : kd = 0 ∨ kd = 1 ∨ kd = 2 ∨ kd = 3 ∨ kd = 4 := by omega
  clear hr hT
  rcases hkd with rfl | rfl | rfl | rfl | rfl
  all_goals
    simp only [if_pos, if_neg, reduceIte, Int.reduceEq]
    go_enter Tryz.func165, Tryz.ntmps165
    go_wp2_with (go_at_call 114; refine (hK _).mono ?_; rintro x w' ⟨rfl, rfl⟩)
    go_region
    go_wp2
    go_ret2
    exact ⟨rfl, hb.drew⟩

end Go.Proofs.YtddkapkkjhomkabGreatDoor
