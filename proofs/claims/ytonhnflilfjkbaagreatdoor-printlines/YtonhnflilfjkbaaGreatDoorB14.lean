/-
  Texts laid together in one: LexQuote, LexWrite, MathLn, AsmRow, AsmWanted, AsmTakeW, AsmTakeO, AsmArg, AsmArgO, AsmSays, AsmRd, GrammarNamed, AsmOp, AsmOpO, AsmOpS, AsmOpA, AsmEnd, Jumps, AsmRead0, AsmRead1, AsmRead2, AsmRead, AsmNumber, AsmHead, LexStep, LexQuoted, StringsClone, LexTok0, LexTok1, LexTokens, AsmRowOf, AsmBuilder, AsmAddInst, AsmLineF, AsmAdd, MathO, MathP, StringsCut, LexLines, AsmParseF, MathQ.
-/
import Derived.WalkSpells
import Derived.WalkMore
import Derived.Test.YtonhnflilfjkbaaGreatDoorProg
import Derived.Test.YtonhnflilfjkbaaGreatDoorB10
import Derived.Test.YtonhnflilfjkbaaGreatDoorB13
import Derived.Test.YtonhnflilfjkbaaGreatDoorB11
import Derived.Lib.Bytealg
import Derived.Lib.IndexLaws
import Derived.BigRegion
import Derived.Deep.QuietTactic
import Derived.BigQuiet
import Derived.Test.YtonhnflilfjkbaaGreatDoorB03
import Derived.Test.YtonhnflilfjkbaaGreatDoorB06
import Derived.Test.YtonhnflilfjkbaaGreatDoorB05
import Derived.Deep.RegionWith
import Derived.Test.YtonhnflilfjkbaaGreatDoorB04
import Derived.RangeFuncNested
import Derived.RangeFuncBound
import Derived.RangeFuncCalls
import Derived.RangeFuncLeaves
import Derived.Shelf.Abstract
import Derived.Shelf.RegionOpen
import Derived.WalkKit
import Derived.OwnWalkIn
import Derived.TacticsInMore
import Derived.LoopNIn
import Derived.LoopIn
import Derived.Test.YtonhnflilfjkbaaGreatDoorB09
import Derived.Test.YtonhnflilfjkbaaGreatDoorB08
import Derived.ScopeJumps
import Derived.Deep.RegionLaw
import Derived.Deep.AppendLies
import Derived.OwnWalk
import Derived.Shelf.LaysM
import Derived.Shelf.Strconv.Clone
import Derived.Test.YtonhnflilfjkbaaGreatDoorB07
import Derived.Test.YtonhnflilfjkbaaGreatDoorB02
import Derived.Test.YtonhnflilfjkbaaGreatDoorB01
/-
  What Quote of the layer lex returns, for every text whose quoted form keeps to Go's own limit of a length; nothing that was there turns.
-/
namespace Go.Proofs.YtonhnflilfjkbaaGreatDoor
open Go.RowKit
set_option maxRecDepth 10000
set_option linter.unusedVariables false
set_option linter.unusedSimpArgs false

theorem esc_quote {c : Int} (h : c = 34 ∨ c = 92) : escL c = [92, c] := by unfold escL; rw [if_pos h]
theorem esc_print {c : Int} (h : ¬ (c = 34 ∨ c = 92)) (h1 : printB c = true) : escL c = [c] := by unfold escL; rw [if_neg h, if_pos h1]
theorem esc_hex {c : Int} (h : ¬ (c = 34 ∨ c = 92)) (h1 : printB c = false) : escL c = [92, 120, hexD (c / 16), hexD (c % 16)] := by unfold escL; rw [if_neg h, if_neg (by simp [h1])]
theorem and15 {c : Int} (h0 : 0 ≤ c) (h1 : c < 256) : bits .and .u8 c 15 = c % 16 := by
  obtain ⟨n, rfl⟩ := Int.eq_ofNat_of_zero_le h0
  have hn : n < 256 := by omega
  have key : ∀ n : Fin 256, bits .and .u8 ((n.val : Nat) : Int) 15 = ((n.val : Nat) : Int) % 16 := by decide +kernel
  exact key ⟨n, hn⟩

set_option maxHeartbeats 2000000 in
theorem quote_any (s : ByteArray) (w : World) (hs : 4 * s.size + 2 ≤ 140737488355328) :
    Calls Tryz.prog 90 #[.string s] w fun e w' => e = .returned (.string (strOfNums (quoteL (strI s)))) ∧ Below w.heap.size w w' := by
  have HLen := strI_len s
  have HS : Hid (∀ k, k < s.size → (34 :: ((strI s).take (k + 1)).flatMap escL) = (34 :: ((strI s).take k).flatMap escL) ++ escL (nth (strI s) k)) := fun k hk => by
    rw [flat_snoc _ k (by omega)]; rfl
  have HE : Hid ((34 :: ((strI s).take s.size).flatMap escL) ++ [34] = quoteL (strI s)) := by
    show _ = _
    rw [List.take_of_length_le (by omega)]; rfl
  have HW : Hid (Within 256 (quoteL (strI s))) := quoteL_within (strI_within s)
  have HL : Hid (∀ k, k ≤ s.size → (34 :: ((strI s).take k).flatMap escL).length ≤ 4 * k + 1) := fun k hk => by
    have := flat_lenX ((strI s).take k)
    rw [List.length_take] at this
    simp only [List.length_cons]; omega
  have h0 := bld_new w w.heap.size (Nat.le_refl _)
  have b0 : Below w.heap.size w (w.alloc (.cells #[.pointer none, .slice none 0 0] 76)) := (Below.refl _ w).alloc (Nat.le_refl _) _
  have hW0 := writeByte_any w.heap.size w.heap.size [] 34 _ h0 (by simp) b0.size
  clear h0 HLen
  go_enter Tryz.func90, Tryz.ntmps90
  go_wp2_with fail
  refine hW0.mono ?_
  rintro e w1 ⟨rfl, h1, b1, _⟩
  have bel1 := b0.trans b1
  clear hW0 b0 b1
  go_wp2_with fail
  go_loopw [9] (fun i wr => ∃ k : Nat, k ≤ s.size ∧ i = .int .i64 k ∧ Bld w.heap.size w.heap.size (34 :: ((strI s).take k).flatMap escL) wr ∧ Below w.heap.size w wr) (fun i _ => s.size - (intOf i).toNat)
  case atStart => exact ⟨0, Nat.zero_le _, rfl, h1, bel1⟩
  case round =>
    obtain ⟨k, hk, rfl, hB, hbel⟩ := hrel
    have hl := HL.out k hk
    have hsz := hbel.size
    clear h1 bel1
    by_cases hlt : k < s.size
    · have hc0 : (0 : Int) ≤ (s[k].toNat : Int) := by omega
      have hc1 : (s[k].toNat : Int) < 256 := by have := s[k].toNat_lt; omega
      have hP := fun wx => printable_any (s[k].toNat : Int) wx hc0 hc1
      have eS := HS.out k hlt
      rw [nth_strI s k hlt] at eS
      have ES : Hid ((34 :: ((strI s).take (k + 1)).flatMap escL) = (34 :: ((strI s).take k).flatMap escL) ++ escL (s[k].toNat : Int)) := eS
      clear eS
      generalize (34 :: ((strI s).take k).flatMap escL) = zs at hB hl ES
      by_cases hq : (s[k].toNat : Int) = 34 ∨ (s[k].toNat : Int) = 92
      · rw [esc_quote hq] at ES
        have hW1 := writeByte_any w.heap.size w.heap.size zs 92 wr hB (by omega) hsz
        rcases hq with hq | hq
        · have hq' : ((s[k].toNat : Int) == 34) = true := by simpa using hq
          rw [hq] at ES
          clear hP hB
          go_wp2_with fail
          refine hW1.mono ?_
          rintro e w1 ⟨rfl, h1, b1, _⟩
          have hW2 := writeByte_any w.heap.size w.heap.size (zs ++ [92]) 34 w1 h1 (by simp; omega) (Nat.le_trans hsz b1.size)
          go_wp2_with fail
          refine hW2.mono ?_
          rintro e w2 ⟨rfl, h2, b2, _⟩
          go_wp2_with fail
          go_roundw
          case rel => exact ⟨k + 1, by omega, by go_num, by rw [ES.out]; simpa using h2, (hbel.trans b1).trans b2⟩
          case measure => simp [intOf]; omega
        · have hq' : ((s[k].toNat : Int) == 34) = false := by rw [hq]; rfl
          have hq2 : ((s[k].toNat : Int) == 92) = true := by simpa using hq
          rw [hq] at ES
          clear hP hB
          go_wp2_with fail
          refine hW1.mono ?_
          rintro e w1 ⟨rfl, h1, b1, _⟩
          have hW2 := writeByte_any w.heap.size w.heap.size (zs ++ [92]) 92 w1 h1 (by simp; omega) (Nat.le_trans hsz b1.size)
          go_wp2_with fail
          refine hW2.mono ?_
          rintro e w2 ⟨rfl, h2, b2, _⟩
          go_wp2_with fail
          go_roundw
          case rel => exact ⟨k + 1, by omega, by go_num, by rw [ES.out]; simpa using h2, (hbel.trans b1).trans b2⟩
          case measure => simp [intOf]; omega
      · have hq1 : ((s[k].toNat : Int) == 34) = false := by simpa using fun e => hq (.inl e)
        have hq2 : ((s[k].toNat : Int) == 92) = false := by simpa using fun e => hq (.inr e)
        cases hp : printB (s[k].toNat : Int)
        · rw [esc_hex hq hp] at ES
          rw [hp] at hP
          have hd1 := fun wx => hexDigit_any ((s[k].toNat : Int) / 16) wx (by omega) (by omega)
          have hd2 := fun wx => hexDigit_any ((s[k].toNat : Int) % 16) wx (by omega) (by omega)
          have ha := and15 hc0 hc1
          have hW1 := writeString_any w.heap.size w.heap.size zs { data := #[92, 120] } wr hB (by show _ + 2 ≤ _; omega) hsz
          rw [show strI { data := #[92, 120] } = [92, 120] from rfl] at hW1
          have D1 : Hid ((if (s[k].toNat : Int) / 16 < 10 then 48 + (s[k].toNat : Int) / 16 else 87 + (s[k].toNat : Int) / 16) = hexD ((s[k].toNat : Int) / 16)) := rfl
          have D2 : Hid ((if (s[k].toNat : Int) % 16 < 10 then 48 + (s[k].toNat : Int) % 16 else 87 + (s[k].toNat : Int) % 16) = hexD ((s[k].toNat : Int) % 16)) := rfl
          rw [D1.out] at hd1
          rw [D2.out] at hd2
          clear hq hp hB D1 D2
          generalize hexD ((s[k].toNat : Int) / 16) = d1 at *
          generalize hexD ((s[k].toNat : Int) % 16) = d2 at *
          go_wp2_with fail
          refine (hP _).mono ?_
          rintro e w' ⟨rfl, rfl⟩
          go_wp2_with fail
          refine hW1.mono ?_
          rintro e w1 ⟨rfl, h1, b1, _⟩
          have s1 := Nat.le_trans hsz b1.size
          go_wp2_with fail
          refine (hd1 _).mono ?_
          rintro e w' ⟨rfl, rfl⟩
          have hW2 := writeByte_any w.heap.size w.heap.size (zs ++ [92, 120]) d1 w1 h1 (by simp; omega) s1
          go_wp2_with fail
          refine hW2.mono ?_
          rintro e w2 ⟨rfl, h2, b2, _⟩
          go_wp2_with fail
          refine (hd2 _).mono ?_
          rintro e w' ⟨rfl, rfl⟩
          have hW3 := writeByte_any w.heap.size w.heap.size (zs ++ [92, 120] ++ [d1]) d2 w2 h2 (by simp; omega) (Nat.le_trans s1 b2.size)
          go_wp2_with fail
          refine hW3.mono ?_
          rintro e w3 ⟨rfl, h3, b3, _⟩
          go_wp2_with fail
          go_roundw
          case rel => exact ⟨k + 1, by omega, by go_num, by rw [ES.out]; simpa using h3, ((hbel.trans b1).trans b2).trans b3⟩
          case measure => simp [intOf]; omega
        · rw [esc_print hq hp] at ES
          rw [hp] at hP
          have hW1 := writeByte_any w.heap.size w.heap.size zs (s[k].toNat : Int) wr hB (by omega) hsz
          clear hq hp hB
          go_wp2_with fail
          refine (hP _).mono ?_
          rintro e w' ⟨rfl, rfl⟩
          go_wp2_with fail
          refine hW1.mono ?_
          rintro e w1 ⟨rfl, h1, b1, _⟩
          go_wp2_with fail
          go_roundw
          case rel => exact ⟨k + 1, by omega, by go_num, by rw [ES.out]; exact h1, hbel.trans b1⟩
          case measure => simp [intOf]; omega
    · obtain rfl : k = s.size := by omega
      have hW1 := writeByte_any w.heap.size w.heap.size _ 34 wr hB (by omega) hsz
      rw [HE.out] at hW1
      clear hB
      go_wp2_with fail
      refine hW1.mono ?_
      rintro e w1 ⟨rfl, h1, b1, _⟩
      have hW2 := buildString_any w.heap.size w.heap.size _ w1 h1 HW.out (Nat.le_trans hsz b1.size)
      clear hW1 h1
      go_wp2_with fail
      refine hW2.mono ?_
      rintro e w2 ⟨rfl, h2, b2, _⟩
      clear hW2 h2
      go_wp2_with fail
      go_ret
      exact ⟨rfl, (hbel.trans b1).trans b2⟩

end Go.Proofs.YtonhnflilfjkbaaGreatDoor

/-
  What written and Write of the layer lex return, for every list of tokens whose line keeps to Go's own limit of a length; nothing that was there turns.
-/
namespace Go.Proofs.YtonhnflilfjkbaaGreatDoor
open Go.RowKit
set_option maxRecDepth 10000
set_option linter.unusedVariables false
set_option linter.unusedSimpArgs false

theorem written_any (k : Int) (s : ByteArray) (a : Int) (w : World) (hk0 : 0 ≤ k) (hk1 : k < 256) (hs : 4 * s.size + 2 ≤ 140737488355328) :
    Calls Tryz.prog 52 #[.agg #[.int .u8 k, .string s, .int .i64 a]] w fun e w' => e = .returned (.string (strOfNums (tokS k (strI s)))) ∧ Below w.heap.size w w' := by
  have HB : Hid (Below w.heap.size w (w.alloc (.cells #[.int .u8 k, .string s, .int .i64 a] 81))) := (Below.refl _ w).alloc (Nat.le_refl _) _
  by_cases k2 : k = 2
  · subst k2
    have HT : Hid (strOfNums (tokS 2 (strI s)) = { data := #[37] } ++ s) := by
      show _ = _
      rw [show tokS 2 (strI s) = [37] ++ strI s from rfl, strOfNums_append, str_of_strI]; rfl
    go_enter Tryz.func52, Tryz.ntmps52
    go_wp2_with fail
    go_ret
    exact ⟨by rw [HT.out]; rfl, HB.out⟩
  by_cases k4 : k = 4
  · subst k4
    have HT : Hid (tokS 4 (strI s) = quoteL (strI s)) := rfl
    have hQ := fun wx => quote_any s wx hs
    go_enter Tryz.func52, Tryz.ntmps52
    go_wp2_with fail
    refine (hQ _).mono ?_
    rintro e w' ⟨rfl, hb⟩
    go_wp2_with fail
    go_ret
    exact ⟨by rw [HT.out]; rfl, HB.out.trans (hb.mono (by simp))⟩
  have HT : Hid (strOfNums (tokS k (strI s)) = s) := by
    show _ = _
    rw [show tokS k (strI s) = strI s by simp [tokS, k2, k4], str_of_strI]
  have b2 : (k == 2) = false := by simpa using k2
  have b4 : (k == 4) = false := by simpa using k4
  clear k2 k4
  go_enter Tryz.func52, Tryz.ntmps52
  go_wp2_with fail
  go_ret
  exact ⟨by rw [HT.out]; rfl, HB.out⟩

set_option maxHeartbeats 2000000 in
theorem write_any (a : Option Addr) (n cap : Nat) (l : List TokT) (w : World) (hv : ToksV w a l) (hl : l.length = n) (hok : ToksIn l) (hu : 4 * bulkT l + 3 * n ≤ 140737488351232) :
    Calls Tryz.prog 28 #[.slice a n cap] w fun e w' => e = .returned (.tuple #[.string (strOfNums (wOut l)), .int .i64 (wErr l)]) ∧ Below w.heap.size w w' := by
  have HL : Hid (l.length = n) := hl
  have HV : Hid (ToksV w a l) := hv
  have HK : Hid (ToksIn l) := hok
  have HLEN : Hid (∀ k, k ≤ n → ((wAll (l.take k)).drop 1).length ≤ 4 * bulkT l + 3 * n) := fun k hk => by
    have h1 := wAll_len (l.take k)
    have h2 := bulkT_take l k
    rw [List.length_take, HL.out] at h1
    rw [List.length_drop]; omega
  have HBK : Hid (∀ k, k < n → (nthT l k).2.1.size ≤ bulkT l) := fun k hk => bulkT_at l k (by rw [HL.out]; exact hk)
  have HN : Hid (∀ k, k < n → tokOk (nthT l k).1 (strI (nthT l k).2.1) = false → wOk l = false) := fun k hk h => wOk_not (by rw [HL.out]; exact hk) h
  have HA : Hid ((∀ k, k < n → tokOk (nthT l k).1 (strI (nthT l k).2.1) = true) → wOk l = true) := fun h => wOk_all (by rw [HL.out]; exact h)
  have hli : (n : Int) ≤ 140737488351232 := by omega
  have HU : Hid (4 * bulkT l + 3 * n ≤ 140737488351232) := hu
  have h0 := bld_new w w.heap.size (Nat.le_refl _)
  have b0 : Below w.heap.size w (w.alloc (.cells #[.pointer none, .slice none 0 0] 76)) := (Below.refl _ w).alloc (Nat.le_refl _) _
  have H0 : Hid (Bld w.heap.size w.heap.size [] (w.alloc (.cells #[.pointer none, .slice none 0 0] 76))) := h0
  clear hv hl hok hu h0
  go_enter Tryz.func28, Tryz.ntmps28
  go_wp2_with fail
  go_loopw [9] (fun i wr => ∃ k : Nat, k ≤ n ∧ i = .int .i64 k ∧ Bld w.heap.size w.heap.size ((wAll (l.take k)).drop 1) wr ∧ Below w.heap.size w wr ∧ ∀ j, j < k → tokOk (nthT l j).1 (strI (nthT l j).2.1) = true) (fun i _ => n - (intOf i).toNat)
  case atStart => exact ⟨0, Nat.zero_le _, rfl, H0.out, b0, fun j hj => by omega⟩
  case round =>
    obtain ⟨k, hk, rfl, hB, hbel, hall⟩ := hrel
    have hlen := HLEN.out k hk
    have hsz := hbel.size
    have hwlt : w.heap.size < wr.heap.size := bld_lt hB
    clear H0 b0
    by_cases hlt : k < n
    · obtain ⟨b, off, rfl, hblt, c0, c1, c2⟩ := HV.out k (by rw [HL.out]; exact hlt)
      obtain ⟨t0, t1, t2, t3, t4⟩ := HK.out k (by rw [HL.out]; exact hlt)
      have hbk := HBK.out k hlt
      have EN : Hid (tokOk (nthT l k).1 (strI (nthT l k).2.1) = false → wOk l = false) := HN.out k hlt
      have d0 := (hbel.cell (p := ⟨b, off + k * 3, none⟩) hblt).trans c0
      have d1 := (hbel.cell (p := ⟨b, off + k * 3 + 1, none⟩) hblt).trans c1
      have d2 := (hbel.cell (p := ⟨b, off + k * 3 + 2, none⟩) hblt).trans c2
      have EA : Hid (tokOk (nthT l k).1 (strI (nthT l k).2.1) = true → ∀ j, j < k + 1 → tokOk (nthT l j).1 (strI (nthT l j).2.1) = true) := fun h j hj => by
        by_cases e : j = k
        · subst e; exact h
        · exact hall j (by omega)
      have E0 : Hid (k = 0 → (wAll (l.take (k + 1))).drop 1 = (wAll (l.take k)).drop 1 ++ tokS (nthT l k).1 (strI (nthT l k).2.1)) := fun e => by
        subst e
        rw [wAll_drop0 l (by rw [HL.out]; omega)]; rfl
      have E1 : Hid (0 < k → (wAll (l.take (k + 1))).drop 1 = ((wAll (l.take k)).drop 1 ++ [32]) ++ tokS (nthT l k).1 (strI (nthT l k).2.1)) := fun e => wAll_dropS l k e (by rw [HL.out]; omega)
      clear c0 c1 c2 hall
      generalize (nthT l k).1 = tk at *
      generalize (nthT l k).2.1 = ts at *
      generalize (nthT l k).2.2 = ta at *
      generalize (wAll (l.take k)).drop 1 = zs at *
      have hMB := fun wx => mayBe_any tk ts ta wx t0 t1 t2
      have hWR := fun wx => written_any tk ts ta wx t0 t1 (by have := HU.out; omega)
      have hBa := bld_alloc hB (.cells #[.int .u8 tk, .string ts, .int .i64 ta] 81)
      have hba := hbel.alloc hsz (.cells #[.int .u8 tk, .string ts, .int .i64 ta] 81)
      have hbx : (wr.alloc (.cells #[.int .u8 tk, .string ts, .int .i64 ta] 81)).heap[wr.heap.size]? = some (.cells #[.int .u8 tk, .string ts, .int .i64 ta] 81 (0, 0)) := heap_alloc_new wr _
      have hlx : wr.heap.size < (wr.alloc (.cells #[.int .u8 tk, .string ts, .int .i64 ta] 81)).heap.size := by simp
      have hTL : (strOfNums (tokS tk (strI ts))).size ≤ 4 * ts.size + 2 := by rw [strOfNums_size]; have := tokS_len tk (strI ts); rw [strI_len] at this; exact this
      have HTL : Hid ((strOfNums (tokS tk (strI ts))).size ≤ 4 * ts.size + 2) := hTL
      have HSW : Hid (strI (strOfNums (tokS tk (strI ts))) = tokS tk (strI ts)) := strI_of (tokS_within (strI_within ts))
      clear hB hTL
      go_wp2_with fail
      generalize wr.alloc (.cells #[.int .u8 tk, .string ts, .int .i64 ta] 81) = W1 at hBa hba hbx hlx ⊢
      refine (hMB _).mono ?_
      rintro e w2 ⟨rfl, hb2⟩
      have hB2 := bld_below hBa hb2
      have hbx2 := (hb2.block _ hlx).trans hbx
      have hbel2 := hba.trans (hb2.mono hba.size)
      clear hBa hbx hba hb2 hlx hMB
      generalize tokOk tk (strI ts) = B at *
      cases B
      · have HF : Hid (wOk l = false) := EN.out rfl
        have HO : Hid (strOfNums (wOut l) = ⟨#[]⟩ ∧ wErr l = 2) := by
          have := HF.out
          show _ ∧ _
          unfold wOut wErr; rw [this]; exact ⟨rfl, rfl⟩
        clear hB2 hbx2
        go_wp2_with fail
        go_ret2
        exact ⟨by rw [HO.out.1, HO.out.2]; rfl, hbel2⟩
      · have HR : Hid (∀ j, j < k + 1 → tokOk (nthT l j).1 (strI (nthT l j).2.1) = true) := EA.out rfl
        clear EA EN
        by_cases hk0 : k = 0
        · have HE := E0.out hk0
          subst hk0
          have x0 : w2.cell? ⟨wr.heap.size, 0, none⟩ = some (.int .u8 tk) := by rw [Lib.cell_of_heap hbx2]; rfl
          have x1 : w2.cell? ⟨wr.heap.size, 1, none⟩ = some (.string ts) := by rw [Lib.cell_of_heap hbx2]; rfl
          have x2 : w2.cell? ⟨wr.heap.size, 2, none⟩ = some (.int .i64 ta) := by rw [Lib.cell_of_heap hbx2]; rfl
          have HEH : Hid ((wAll (l.take (0 + 1))).drop 1 = zs ++ tokS tk (strI ts)) := HE
          clear hbx2 E0 E1 HE
          go_wp2_with fail
          refine (hWR _).mono ?_
          rintro e w3 ⟨rfl, hb3⟩
          have hbel3 := hbel2.trans (hb3.mono hbel2.size)
          have hW2 := writeString_any w.heap.size w.heap.size zs (strOfNums (tokS tk (strI ts))) w3 (bld_below hB2 hb3) (by have h1 := HLEN.out (0 + 1) (by omega); rw [HEH.out, List.length_append] at h1; rw [strOfNums_size]; have := HU.out; omega) hbel3.size
          rw [HSW.out] at hW2
          clear hB2 x0 x1 x2 hWR hb3 hbel2
          go_wp2_with fail
          refine hW2.mono ?_
          rintro e w4 ⟨rfl, hB4, hb4, _⟩
          clear hW2
          go_wp2_with fail
          go_roundw
          case rel => exact ⟨0 + 1, by omega, by go_num, by rw [HEH.out]; exact hB4, hbel3.trans hb4, HR.out⟩
          case measure => simp [intOf]; omega
        · have HEH : Hid ((wAll (l.take (k + 1))).drop 1 = (zs ++ [32]) ++ tokS tk (strI ts)) := E1.out (by omega)
          have hkp : (0 : Int) < (k : Int) := by omega
          have hW1 := writeByte_any w.heap.size w.heap.size zs 32 w2 hB2 (by have := HU.out; omega) hbel2.size
          clear E0 E1 hB2
          go_wp2_with fail
          refine hW1.mono ?_
          rintro e w3 ⟨rfl, hB3, hb3, hk3⟩
          have hbx3 := hk3 _ _ hbx2 (by simp; omega) (fun c fz => by simp)
          have hbel3 := hbel2.trans hb3
          have x0 : w3.cell? ⟨wr.heap.size, 0, none⟩ = some (.int .u8 tk) := by rw [Lib.cell_of_heap hbx3]; rfl
          have x1 : w3.cell? ⟨wr.heap.size, 1, none⟩ = some (.string ts) := by rw [Lib.cell_of_heap hbx3]; rfl
          have x2 : w3.cell? ⟨wr.heap.size, 2, none⟩ = some (.int .i64 ta) := by rw [Lib.cell_of_heap hbx3]; rfl
          clear hbx2 hbx3 hk3 hb3 hW1 hbel2
          go_wp2_with fail
          refine (hWR _).mono ?_
          rintro e w4 ⟨rfl, hb4⟩
          have hbel4 := hbel3.trans (hb4.mono hbel3.size)
          have hW2 := writeString_any w.heap.size w.heap.size (zs ++ [32]) (strOfNums (tokS tk (strI ts))) w4 (bld_below hB3 hb4) (by have h1 := HLEN.out (k + 1) (by omega); rw [HEH.out, List.length_append] at h1; rw [strOfNums_size]; have := HU.out; omega) hbel4.size
          rw [HSW.out] at hW2
          clear hB3 x0 x1 x2 hWR hb4 hbel3
          go_wp2_with fail
          refine hW2.mono ?_
          rintro e w5 ⟨rfl, hB5, hb5, _⟩
          clear hW2
          go_wp2_with fail
          go_roundw
          case rel => exact ⟨k + 1, by omega, by go_num, by rw [HEH.out]; exact hB5, hbel4.trans hb5, HR.out⟩
          case measure => simp [intOf]; omega
    · obtain rfl : k = n := by omega
      have HT : Hid (wOk l = true) := HA.out hall
      have HO : Hid ((wAll (l.take k)).drop 1 = wOut l ∧ wErr l = 0) := by
        have := HT.out
        show _ ∧ _
        unfold wOut wErr
        rw [this, List.take_of_length_le (by rw [HL.out]; omega)]; exact ⟨rfl, rfl⟩
      rw [HO.out.1] at hB
      have hW2 := buildString_any w.heap.size w.heap.size _ wr hB (by rw [← HO.out.1]; exact within_dropX (wAll_within _) 1) hsz
      clear hall hB hlen
      go_wp2_with fail
      refine hW2.mono ?_
      rintro e w2 ⟨rfl, h2, b2, _⟩
      clear hW2 h2
      go_wp2_with fail
      go_ret2
      exact ⟨by rw [HO.out.2]; rfl, hbel.trans b2⟩

end Go.Proofs.YtonhnflilfjkbaaGreatDoor

/-
  Lines of a text: the cut at the first byte 10, the lines with their numbers, and what they come to joined.
-/
namespace Go.Proofs.YtonhnflilfjkbaaGreatDoor
open Go.RowKit
set_option linter.unusedSimpArgs false
set_option linter.unusedVariables false

end Go.Proofs.YtonhnflilfjkbaaGreatDoor

/-
  What faultAt and the methods ended and take of a row of tokens return, of the layer asm.
-/
namespace Go.Proofs.YtonhnflilfjkbaaGreatDoor
open Go.RowKit
set_option linter.unusedVariables false
set_option linter.unusedSimpArgs false
set_option maxRecDepth 10000

/-- A row of tokens in memory, at the front of a block. -/
def RowAt (w : World) (B : Nat) (a : Option Addr) (n c k : Nat) (len : Int) (rest : Array Value) (T : Nat) : Prop := w.heap[B]? = some (.cells (#[.slice a n c, .int .i64 (k : Int), .int .i64 len] ++ rest) T (0, 0))
theorem RowAt.lt {w : World} {B : Nat} {a : Option Addr} {n c k : Nat} {len : Int} {rest : Array Value} {T : Nat} (h : RowAt w B a n c k len rest T) : B < w.heap.size := (Array.getElem?_eq_some_iff.1 h).1
theorem RowAt.cells {w : World} {B : Nat} {a : Option Addr} {n c k : Nat} {len : Int} {rest : Array Value} {T : Nat} (h : RowAt w B a n c k len rest T) :
    w.cell? ⟨B, 0, none⟩ = some (.slice a n c) ∧ w.cell? ⟨B, 1, none⟩ = some (.int .i64 (k : Int)) ∧ w.cell? ⟨B, 2, none⟩ = some (.int .i64 len) ∧ ∀ i, w.frozen? ⟨B, i, none⟩ = false := by
  unfold RowAt at h
  refine ⟨?_, ?_, ?_, fun i => ?_⟩
  · simp only [World.cell?, h]; rw [Array.getElem?_append_left (by simp)]; rfl
  · simp only [World.cell?, h]; rw [Array.getElem?_append_left (by simp)]; rfl
  · simp only [World.cell?, h]; rw [Array.getElem?_append_left (by simp)]; rfl
  · simp [World.frozen?, h]
theorem RowAt.below {w w' : World} {B : Nat} {a : Option Addr} {n c k : Nat} {len : Int} {rest : Array Value} {T : Nat} (h : RowAt w B a n c k len rest T) (hb : Below w.heap.size w w') : RowAt w' B a n c k len rest T := (hb.block _ h.lt).trans h
theorem RowAt.step {w : World} {B : Nat} {a : Option Addr} {n c k : Nat} {len : Int} {rest : Array Value} {T : Nat} (h : RowAt w B a n c k len rest T) : RowAt (w.setCell ⟨B, 1, none⟩ (.int .i64 ((k + 1 : Nat) : Int))) B a n c (k + 1) len rest T := by
  unfold RowAt at *
  simp only [World.setCell, Array.getElem?_modify, h]
  simp
theorem grown_below2 {A B : World} (h : Below A.heap.size A B) (row : Option Nat) : A.grownBy B row := ⟨h.os, h.tape, h.output, h.size, fun k hk _ => h.block k hk⟩

end Go.Proofs.YtonhnflilfjkbaaGreatDoor

/-
  What the methods of wanted return, of the layer asm: an argument of a text, or what is wrong with it.
-/
namespace Go.Proofs.YtonhnflilfjkbaaGreatDoor
open Go.RowKit
set_option linter.unusedVariables false
set_option linter.unusedSimpArgs false
set_option maxRecDepth 10000

end Go.Proofs.YtonhnflilfjkbaaGreatDoor

/-
  What the method take of a row of tokens returns, of the layer asm: the next token is of another kind.
-/
namespace Go.Proofs.YtonhnflilfjkbaaGreatDoor
open Go.RowKit
set_option linter.unusedVariables false
set_option linter.unusedSimpArgs false
set_option maxRecDepth 10000

end Go.Proofs.YtonhnflilfjkbaaGreatDoor

/-
  What the method take of a row of tokens returns, of the layer asm: the next token is of that kind.
-/
namespace Go.Proofs.YtonhnflilfjkbaaGreatDoor
open Go.RowKit
set_option linter.unusedVariables false
set_option linter.unusedSimpArgs false
set_option maxRecDepth 10000

end Go.Proofs.YtonhnflilfjkbaaGreatDoor

/-
  What the method argument of a reader returns, of the layer asm.
-/
namespace Go.Proofs.YtonhnflilfjkbaaGreatDoor
open Go.RowKit
set_option linter.unusedVariables false
set_option linter.unusedSimpArgs false
set_option maxRecDepth 10000

end Go.Proofs.YtonhnflilfjkbaaGreatDoor

/-
  What the method argument of a reader returns, of the layer asm, where a token is taken.
-/
namespace Go.Proofs.YtonhnflilfjkbaaGreatDoor
open Go.RowKit
set_option linter.unusedVariables false
set_option linter.unusedSimpArgs false
set_option maxRecDepth 10000

end Go.Proofs.YtonhnflilfjkbaaGreatDoor

/-
  What the method saysResult of a reader returns; what argument returns, in one form.
-/
namespace Go.Proofs.YtonhnflilfjkbaaGreatDoor
open Go.RowKit
set_option linter.unusedVariables false
set_option linter.unusedSimpArgs false
set_option maxRecDepth 10000

end Go.Proofs.YtonhnflilfjkbaaGreatDoor

/-
  A reader of the layer asm in memory, whole: its row, its bound, its form, its instruction, its words.
-/
namespace Go.Proofs.YtonhnflilfjkbaaGreatDoor
open Go.RowKit
set_option linter.unusedVariables false
set_option linter.unusedSimpArgs false
set_option maxRecDepth 10000

end Go.Proofs.YtonhnflilfjkbaaGreatDoor

/-
  What Named of the layer grammar returns, for every name.
-/
namespace Go.Proofs.YtonhnflilfjkbaaGreatDoor
open Go.RowKit Go.Shelf
set_option maxRecDepth 10000
attribute [local go_sem] Oper.semAt_some
set_option linter.unusedVariables false
set_option linter.unusedSimpArgs false

end Go.Proofs.YtonhnflilfjkbaaGreatDoor

/-
  What the method operation of a reader returns, of the layer asm.
-/
namespace Go.Proofs.YtonhnflilfjkbaaGreatDoor
open Go.RowKit
set_option linter.unusedVariables false
set_option linter.unusedSimpArgs false
set_option maxRecDepth 10000

end Go.Proofs.YtonhnflilfjkbaaGreatDoor

/-
  What the method operation of a reader returns, of the layer asm, where a word is taken.
-/
namespace Go.Proofs.YtonhnflilfjkbaaGreatDoor
open Go.RowKit
set_option linter.unusedVariables false
set_option linter.unusedSimpArgs false
set_option maxRecDepth 10000

end Go.Proofs.YtonhnflilfjkbaaGreatDoor

/-
  What the method operation of a reader returns, of the layer asm, where a word is taken.
-/
namespace Go.Proofs.YtonhnflilfjkbaaGreatDoor
open Go.RowKit
set_option linter.unusedVariables false
set_option linter.unusedSimpArgs false
set_option maxRecDepth 10000

end Go.Proofs.YtonhnflilfjkbaaGreatDoor

/-
  What the method operation of a reader returns, of the layer asm, in one form.
-/
namespace Go.Proofs.YtonhnflilfjkbaaGreatDoor
open Go.RowKit
set_option linter.unusedVariables false
set_option linter.unusedSimpArgs false

end Go.Proofs.YtonhnflilfjkbaaGreatDoor

/-
  What the method end of a reader returns, of the layer asm.
-/
namespace Go.Proofs.YtonhnflilfjkbaaGreatDoor
open Go.RowKit
set_option linter.unusedVariables false
set_option linter.unusedSimpArgs false
set_option maxRecDepth 10000

end Go.Proofs.YtonhnflilfjkbaaGreatDoor

/-
  A scope in which the run jumps to several labels: what holds at each jump, and a measure that every pass from a label lowers. No condition but what each names.
-/
namespace Go.Proofs.YtonhnflilfjkbaaGreatDoor
open Go

/-- As Q; by a goto to a label: what holds there. -/
def jumps (J : Nat → Act → World → Prop) (Q : Exit → Act → World → Prop) : Exit → Act → World → Prop
  | .goto l, a, w => J l a w
  | e, a, w => Q e a w

section
variable {Q : Exit → Act → World → Prop} {J : Nat → Act → World → Prop} {a : Act} {w : World}
theorem jumps_normal : jumps J Q .normal a w = Q .normal a w := rfl
theorem jumps_exit (id : Nat) : jumps J Q (.exit id) a w = Q (.exit id) a w := rfl
theorem jumps_ret : jumps J Q .ret a w = Q .ret a w := rfl
theorem jumps_panic (ch : List PanicEntry) : jumps J Q (.panic ch) a w = Q (.panic ch) a w := rfl
theorem jumps_goto (l : Nat) : jumps J Q (.goto l) a w = J l a w := rfl
end

/-- What stands behind a label. -/
def behind : Option Code → Code
  | some (.seq .skip x) => x
  | _ => .skip

end Go.Proofs.YtonhnflilfjkbaaGreatDoor

/-
  A reader's whole line, of the layer asm: what holds at each of its labels; the pass from its end.
-/
namespace Go.Proofs.YtonhnflilfjkbaaGreatDoor
open Go.RowKit
set_option linter.unusedVariables false
set_option linter.unusedSimpArgs false
set_option maxRecDepth 10000
attribute [local go_sem] jumps_normal jumps_exit jumps_ret jumps_panic jumps_goto onNormal_normal

/-- The three boxes of read, and what else has turned. -/
structure ReaS (w : World) (B : Nat) (w' : World) : Prop where
  res : w'.heap[w.heap.size]? = some (.cells #[.int .i64 0, .int .i64 0] 28 (0, 0))
  box : ∃ x0 x1 x2, w'.heap[w.heap.size + 1]? = some (.cells #[x0, x1, x2] 61 (0, 0))
  spot : ∃ y0 y1, w'.heap[w.heap.size + 2]? = some (.cells #[y0, y1] 28 (0, 0))
  grown : w.grownBy w' (some B)
theorem ReaS.size {w w' : World} {B : Nat} (h : ReaS w B w') : w.heap.size + 2 < w'.heap.size := by
  obtain ⟨_, _, h⟩ := h.spot
  exact (Array.getElem?_eq_some_iff.1 h).1
theorem grown_trans7 {w w1 w2 : World} {r : Option Nat} (h : w.grownBy w1 r) (k : w1.grownBy w2 r) : w.grownBy w2 r := ⟨k.os.trans h.os, k.tape.trans h.tape, k.output.trans h.output, Nat.le_trans h.size k.size, fun i hi hr => (k.block i (Nat.lt_of_lt_of_le hi h.size) hr).trans (h.block i hi hr)⟩
theorem ReaS.next {w w1 w2 : World} {B : Nat} (hB : B < w.heap.size) (h : ReaS w B w1) (hg : w1.grownBy w2 (some B)) : ReaS w B w2 := by
  have hs := h.size
  obtain ⟨x0, x1, x2, hx⟩ := h.box
  obtain ⟨y0, y1, hy⟩ := h.spot
  exact ⟨(hg.block _ (by omega) (by simp; omega)).trans h.res, ⟨x0, x1, x2, (hg.block _ (by omega) (by simp; omega)).trans hx⟩, ⟨y0, y1, (hg.block _ (by omega) (by simp; omega)).trans hy⟩, grown_trans7 h.grown hg⟩
theorem ReaS.below {w w1 w2 : World} {B : Nat} (hB : B < w.heap.size) (h : ReaS w B w1) (hb : Below w1.heap.size w1 w2) : ReaS w B w2 := h.next hB (grown_below2 hb _)
end Go.Proofs.YtonhnflilfjkbaaGreatDoor

/-
  A reader's whole line, of the layer asm: the pass from its next argument.
-/
namespace Go.Proofs.YtonhnflilfjkbaaGreatDoor
open Go.RowKit
set_option linter.unusedVariables false
set_option linter.unusedSimpArgs false
set_option maxRecDepth 10000
attribute [local go_sem] jumps_normal jumps_exit jumps_ret jumps_panic jumps_goto onNormal_normal

theorem ArgI.info : (Tryz.prog.info? 61).map (fun i => (i.zero, i.size, i.bytes)) = some (some (.agg #[.int .u8 0, .int .u32 0, .string ⟨#[]⟩]), 3, 24) := by kernel_rfl

end Go.Proofs.YtonhnflilfjkbaaGreatDoor

/-
  A reader's whole line, of the layer asm: the passes from its operation and from its arguments on.
-/
namespace Go.Proofs.YtonhnflilfjkbaaGreatDoor
open Go.RowKit
set_option linter.unusedVariables false
set_option linter.unusedSimpArgs false
set_option maxRecDepth 10000
attribute [local go_sem] jumps_normal jumps_exit jumps_ret jumps_panic jumps_goto onNormal_normal

end Go.Proofs.YtonhnflilfjkbaaGreatDoor

/-
  What the method read of a reader returns, of the layer asm.
-/
namespace Go.Proofs.YtonhnflilfjkbaaGreatDoor
open Go.RowKit
set_option linter.unusedVariables false
set_option linter.unusedSimpArgs false
set_option maxRecDepth 10000
attribute [local go_sem] jumps_normal jumps_exit jumps_ret jumps_panic jumps_goto onNormal_normal

end Go.Proofs.YtonhnflilfjkbaaGreatDoor

/-
  What the method number of a row of tokens returns, of the layer asm.
-/
namespace Go.Proofs.YtonhnflilfjkbaaGreatDoor
open Go.RowKit
set_option linter.unusedVariables false
set_option linter.unusedSimpArgs false
set_option maxRecDepth 10000

end Go.Proofs.YtonhnflilfjkbaaGreatDoor

/-
  What the method head of a row of tokens returns, of the layer asm.
-/
namespace Go.Proofs.YtonhnflilfjkbaaGreatDoor
open Go.RowKit
set_option linter.unusedVariables false
set_option linter.unusedSimpArgs false
set_option maxRecDepth 10000

/-- What holds while a head is taken. -/
structure HeadS (w : World) (B : Nat) (a : Option Addr) (n c : Nat) (len : Int) (rest : Array Value) (T : Nat) (l : List TokT) (k : Nat) (W : World) : Prop where
  row : RowAt W B a n c k len rest T
  toks : ToksV W a l
  grown : w.grownBy W (some B)
  head : W.heap[w.heap.size]? = some (.cells #[.int .u32 0, .int .u32 0] 106 (0, 0))
  spot : W.heap[w.heap.size + 1]? = some (.cells #[.int .i64 0, .int .i64 0] 28 (0, 0))
  lt : B < w.heap.size
  far : ∀ b off, a = some ⟨b, off, none⟩ → b ≠ B ∧ b < w.heap.size

section
variable {w : World} {B : Nat} {a : Option Addr} {n c k k' : Nat} {len : Int} {rest : Array Value} {T : Nat} {l : List TokT} {W W' : World}
theorem HeadS.size (h : HeadS w B a n c len rest T l k W) : w.heap.size + 1 < W.heap.size := (Array.getElem?_eq_some_iff.1 h.spot).1
theorem HeadS.below (h : HeadS w B a n c len rest T l k W) (hb : Below W.heap.size W W') : HeadS w B a n c len rest T l k W' :=
  ⟨h.row.below hb, h.toks.below hb, ⟨hb.os.trans h.grown.os, hb.tape.trans h.grown.tape, hb.output.trans h.grown.output, Nat.le_trans h.grown.size hb.size, fun j hj hr => (hb.block j (Nat.lt_of_lt_of_le hj h.grown.size)).trans (h.grown.block j hj hr)⟩, (hb.block _ (Array.getElem?_eq_some_iff.1 h.head).1).trans h.head, (hb.block _ h.size).trans h.spot, h.lt, h.far⟩
/-- Blocks behind the two turn, and the row's own. -/
theorem HeadS.next (h : HeadS w B a n c len rest T l k W) (hs : W.heap.size ≤ W'.heap.size) (hk : ∀ j, j < w.heap.size + 2 → j ≠ B → W'.heap[j]? = W.heap[j]?) (hos : W'.os = W.os) (htp : W'.tape = W.tape) (hout : W'.output = W.output) (hR : RowAt W' B a n c k' len rest T) : HeadS w B a n c len rest T l k' W' := by
  have hl := h.lt
  refine ⟨hR, ?_, ⟨hos.trans h.grown.os, htp.trans h.grown.tape, hout.trans h.grown.output, Nat.le_trans h.grown.size hs, fun j hj hr => (hk j (by omega) (by simpa using hr)).trans (h.grown.block j hj hr)⟩, (hk _ (by omega) (by omega)).trans h.head, (hk _ (by omega) (by omega)).trans h.spot, h.lt, h.far⟩
  intro j hj
  obtain ⟨b, off, e, hb, h1, h2, h3⟩ := h.toks j hj
  obtain ⟨f1, f2⟩ := h.far b off e
  have hx := hk b (by omega) f1
  refine ⟨b, off, e, by omega, ?_, ?_, ?_⟩
  · simp only [World.cell?, hx] at h1 ⊢; exact h1
  · simp only [World.cell?, hx] at h2 ⊢; exact h2
  · simp only [World.cell?, hx] at h3 ⊢; exact h3
theorem HeadS.grow (h : HeadS w B a n c len rest T l k W) (hg : W.grownBy W' (some B)) (hR : RowAt W' B a n c k' len rest T) : HeadS w B a n c len rest T l k' W' :=
  h.next hg.size (fun j hj hn => hg.block j (by have := h.size; omega) (by simpa using hn)) hg.os hg.tape hg.output hR
theorem HeadS.set (h : HeadS w B a n c len rest T l k W) {g : Nat} (hg : w.heap.size + 2 ≤ g) (i : Nat) (v : Value) : HeadS w B a n c len rest T l k (W.setCell ⟨g, i, none⟩ v) := by
  have hl := h.lt
  exact h.next (by simp) (fun j hj _ => Below.heap_setCell _ _ _ _ (by simp; omega)) rfl rfl rfl ((Below.heap_setCell _ _ _ _ (by simp; omega)).trans h.row)
end

end Go.Proofs.YtonhnflilfjkbaaGreatDoor

/-
  What look and step of the scanner of the layer lex do: its block holds the line, the place, the byte that is next and its kind; no other block turns.
-/
namespace Go.Proofs.YtonhnflilfjkbaaGreatDoor
open Go.RowKit
set_option maxRecDepth 10000
set_option linter.unusedVariables false
set_option linter.unusedSimpArgs false

end Go.Proofs.YtonhnflilfjkbaaGreatDoor

/-
  What quoted of the scanner of the layer lex returns, for every line and place: the text that the quotes stand for, and the scanner behind them; or that there is none. No other block that was there turns.
-/
namespace Go.Proofs.YtonhnflilfjkbaaGreatDoor
open Go.RowKit
set_option maxRecDepth 10000
set_option linter.unusedVariables false
set_option linter.unusedSimpArgs false
attribute [local go_sem] jumps_normal jumps_exit jumps_ret jumps_panic jumps_goto

end Go.Proofs.YtonhnflilfjkbaaGreatDoor

/-
  What strings.Clone returns: the text as it is; nothing that was there turns (the library's contract, laid at this program).
-/
namespace Go.Proofs.YtonhnflilfjkbaaGreatDoor
open Go.RowKit Go.Shelf
set_option maxRecDepth 10000

end Go.Proofs.YtonhnflilfjkbaaGreatDoor

/-
  The scanner's tokens of the layer lex: what holds at each of its labels, and the passes from a token that is taken, from a whole piece and from a run. No condition but what each names.
-/
namespace Go.Proofs.YtonhnflilfjkbaaGreatDoor
open Go.RowKit
set_option maxRecDepth 100000
set_option linter.unusedVariables false
set_option linter.unusedSimpArgs false
attribute [local go_sem] jumps_normal jumps_exit jumps_ret jumps_panic jumps_goto onNormal_normal

theorem TokL.info : (Tryz.prog.info? 81).map (fun i => (i.zero, i.size, i.bytes)) = some (some (.agg #[.int .u8 0, .string ⟨#[]⟩, .int .i64 0]), 3, 32) := by kernel_rfl
end Go.Proofs.YtonhnflilfjkbaaGreatDoor

/-
  The scanner's tokens of the layer lex: the pass from between two tokens. No condition but what each names.
-/
namespace Go.Proofs.YtonhnflilfjkbaaGreatDoor
open Go.RowKit
set_option maxRecDepth 100000
set_option linter.unusedVariables false
set_option linter.unusedSimpArgs false
attribute [local go_sem] jumps_normal jumps_exit jumps_ret jumps_panic jumps_goto onNormal_normal

end Go.Proofs.YtonhnflilfjkbaaGreatDoor

/-
  What Tokens of the layer lex returns, for every line whose tokens keep to the memory's reach: the tokens in new memory, or what is wrong and where; nothing that was there turns.
-/
namespace Go.Proofs.YtonhnflilfjkbaaGreatDoor
open Go.RowKit
set_option maxRecDepth 100000
set_option linter.unusedVariables false
set_option linter.unusedSimpArgs false
attribute [local go_sem] jumps_normal jumps_exit jumps_ret jumps_panic jumps_goto onNormal_normal

end Go.Proofs.YtonhnflilfjkbaaGreatDoor

/-
  What rowOf of the layer asm returns: a line's tokens as a row.
-/
namespace Go.Proofs.YtonhnflilfjkbaaGreatDoor
open Go.RowKit
set_option linter.unusedVariables false
set_option linter.unusedSimpArgs false
set_option maxRecDepth 10000

end Go.Proofs.YtonhnflilfjkbaaGreatDoor

/-
  What the methods headed and addHead of a builder return, of the layer asm.
-/
namespace Go.Proofs.YtonhnflilfjkbaaGreatDoor
open Go.RowKit
set_option linter.unusedVariables false
set_option linter.unusedSimpArgs false
set_option maxRecDepth 10000

/-- All blocks that were there, but one and a row's, are as they were. -/
structure Two (w : World) (B : Nat) (ob : Option Nat) (w' : World) : Prop where
  os : w'.os = w.os
  tape : w'.tape = w.tape
  output : w'.output = w.output
  size : w.heap.size ≤ w'.heap.size
  block : ∀ k, k < w.heap.size → k ≠ B → some k ≠ ob → w'.heap[k]? = w.heap[k]?
theorem Two.of_below {w w' : World} {B : Nat} {ob : Option Nat} (h : Below w.heap.size w w') : Two w B ob w' := ⟨h.os, h.tape, h.output, h.size, fun k hk _ _ => h.block k hk⟩

end Go.Proofs.YtonhnflilfjkbaaGreatDoor

/-
  What the method addInst of a builder returns, of the layer asm.
-/
namespace Go.Proofs.YtonhnflilfjkbaaGreatDoor
open Go.RowKit
set_option linter.unusedVariables false
set_option linter.unusedSimpArgs false
set_option maxRecDepth 10000

theorem Inst7.info : (Tryz.prog.info? 38).map (fun i => (i.zero, i.size, i.bytes)) = some (some (.agg #[.int .u16 0, .int .u32 0, .int .u32 0, .slice none 0 0]), 4, 40) := by kernel_rfl

end Go.Proofs.YtonhnflilfjkbaaGreatDoor

/-
  What Line of the layer asm returns.
-/
namespace Go.Proofs.YtonhnflilfjkbaaGreatDoor
open Go.RowKit
set_option linter.unusedVariables false
set_option linter.unusedSimpArgs false
set_option maxRecDepth 10000

end Go.Proofs.YtonhnflilfjkbaaGreatDoor

/-
  What the method add of a builder returns, of the layer asm.
-/
namespace Go.Proofs.YtonhnflilfjkbaaGreatDoor
open Go.RowKit
set_option linter.unusedVariables false
set_option linter.unusedSimpArgs false
set_option maxRecDepth 10000

end Go.Proofs.YtonhnflilfjkbaaGreatDoor

/-
  Plain facts on what a line says: where it says no instruction, none is answered.
-/
namespace Go.Proofs.YtonhnflilfjkbaaGreatDoor
open Go.RowKit
set_option linter.unusedVariables false
set_option linter.unusedSimpArgs false
set_option maxRecDepth 10000

end Go.Proofs.YtonhnflilfjkbaaGreatDoor

/-
  Plain facts on what a line says: an instruction that it says can be written; what it says else is an error, unless it says nothing.
-/
namespace Go.Proofs.YtonhnflilfjkbaaGreatDoor
open Go.RowKit
set_option linter.unusedVariables false
set_option linter.unusedSimpArgs false
set_option maxRecDepth 10000

end Go.Proofs.YtonhnflilfjkbaaGreatDoor

/-
  What strings.Cut returns at a line's end.
-/
namespace Go.Proofs.YtonhnflilfjkbaaGreatDoor
open Go.RowKit
set_option maxRecDepth 10000
set_option linter.unusedVariables false
set_option linter.unusedSimpArgs false

end Go.Proofs.YtonhnflilfjkbaaGreatDoor

/-
  Lines of the layer lex, and what its iterator tells: the lines of the text, each with its number.
-/
namespace Go.Proofs.YtonhnflilfjkbaaGreatDoor
open Go.RowKit Go.Shelf Go.Lib
set_option maxRecDepth 10000
attribute [local go_sem] Oper.semAt_some
set_option linter.unusedVariables false
set_option linter.unusedSimpArgs false

end Go.Proofs.YtonhnflilfjkbaaGreatDoor

/-
  What Parse of the layer asm returns: its lines one by one.
-/
namespace Go.Proofs.YtonhnflilfjkbaaGreatDoor
open Go.RowKit Go.Shelf
attribute [local go_sem] Oper.semAt_some
set_option linter.unusedVariables false
set_option linter.unusedSimpArgs false
set_option maxRecDepth 100000

end Go.Proofs.YtonhnflilfjkbaaGreatDoor

/-
  Plain facts on what a text says: what is read is of good shape; a fault hangs on the lines up to it alone.
-/
namespace Go.Proofs.YtonhnflilfjkbaaGreatDoor
open Go.RowKit
set_option linter.unusedVariables false
set_option linter.unusedSimpArgs false
set_option maxRecDepth 10000

/-- How many words instructions have, with one more each. -/
def wsum (b : Int) (l : List InstT) : Nat := (l.map fun x => 1 + (rawWs x b).length).sum
end Go.Proofs.YtonhnflilfjkbaaGreatDoor
