/-
  One and Write of the document's answer, for tokens whose line keeps to the memory's reach. Nothing that was there turns.
-/
import Derived.WalkSpells
import Derived.WalkMore
import Derived.Deep.QuietTactic
import Derived.BigQuiet
import Derived.Test.YtccllonkhklldabProg
import Derived.Test.YtccllonkhklldabLexWrite
import Derived.Test.YtccllonkhklldabRef06Run
import Derived.Test.YtccllonkhklldabRef06Quote
namespace Go.Proofs.Ytccllonkhklldab
open Go.RowKit
set_option maxRecDepth 10000
set_option linter.unusedVariables false
set_option linter.unusedSimpArgs false

theorem run_all : ∀ l : List Int, decide (l.take (l.takeWhile runB).length = l) = l.all runB
  | [] => by simp
  | c :: l => by
    have ih := run_all l
    cases h : runB c
    · rw [List.takeWhile_cons_of_neg (by simp [h])]; simp [h]
    · rw [List.takeWhile_cons_of_pos (by simp [h])]
      simp only [List.length_cons, List.take_succ_cons, List.cons.injEq, true_and, List.all_cons, h, Bool.true_and]
      exact ih
theorem run_word (s : ByteArray) (h0 : 0 < s.size) (hl : letterB (s[0].toNat : Int) = true) : ((s.extract 0 (runE (strI s) 0)).toList == s.toList) = wordB (strI s) := by
  rw [eq_strI, strI_extract, List.drop_zero]
  have e : runE (strI s) 0 = ((strI s).takeWhile runB).length := by simp [runE]
  rw [e, run_all]
  unfold wordB
  rw [nth_strI s 0 h0, hl]
  have : (strI s).isEmpty = false := by
    have := strI_len s
    cases hx : strI s with
    | nil => rw [hx] at this; simp at this; omega
    | cons c r => rfl
  rw [this]; simp
theorem word_first (s : ByteArray) (h0 : 0 < s.size) (hl : letterB (s[0].toNat : Int) = false) : wordB (strI s) = false := by
  unfold wordB; rw [nth_strI s 0 h0, hl]; simp
theorem word_none (s : ByteArray) (h0 : s.size = 0) : wordB (strI s) = false := by
  have : strI s = [] := List.length_eq_zero_iff.1 (by rw [strI_len]; exact h0)
  rw [this]; rfl
/-- What One answers. -/
def oneS (k : Int) (s : ByteArray) : ByteArray := if tokOk k (strI s) then strOfNums (tokS k (strI s)) else ⟨#[]⟩
def oneE (k : Int) (s : ByteArray) : Int := if tokOk k (strI s) then 0 else 2
theorem one_ok {k : Int} {s : ByteArray} (h : tokOk k (strI s) = true) : oneS k s = strOfNums (tokS k (strI s)) ∧ oneE k s = 0 := by unfold oneS oneE; rw [h]; exact ⟨rfl, rfl⟩
theorem one_not {k : Int} {s : ByteArray} (h : tokOk k (strI s) = false) : oneS k s = ⟨#[]⟩ ∧ oneE k s = 2 := by unfold oneS oneE; rw [h]; exact ⟨rfl, rfl⟩
theorem size_empty6 (s : ByteArray) (h : s.size = 0) : s.toList.isEmpty = true := by
  rw [ByteArray.toList_eq]
  have : s.data.toList = [] := by rw [← List.length_eq_zero_iff, Array.length_toList]; exact h
  rw [this]; rfl
theorem size_filled6 (s : ByteArray) (h : 0 < s.size) : s.toList.isEmpty = false := by
  rw [ByteArray.toList_eq]
  cases e : s.data.toList with
  | nil => exact absurd (show s.size = 0 by rw [← show s.data.size = s.size from rfl, ← Array.length_toList, e]; rfl) (by omega)
  | cons x l => rfl

set_option maxHeartbeats 2000000 in
theorem refOne_any (k : Int) (s : ByteArray) (a : Int) (w : World) (hk0 : 0 ≤ k) (hk1 : k < 256) (hs : s.size ≤ 1048576) :
    Calls Try.prog 26 #[.agg #[.int .u8 k, .string s, .int .i64 a]] w fun e w' => e = .returned (.tuple #[.string (oneS k s), .int .i64 (oneE k s)]) ∧ Below w.heap.size w w' := by
  have HB : Hid (Below w.heap.size w (w.alloc (.cells #[.int .u8 k, .string s, .int .i64 a] 30))) := (Below.refl _ w).alloc (Nat.le_refl _) _
  have hs' : s.size ≤ 140737488351232 := by omega
  have C1 : (w.alloc (.cells #[.int .u8 k, .string s, .int .i64 a] 30)).cell? ⟨w.heap.size, 1, none⟩ = some (.string s) := by
    rw [Lib.cell_of_heap (heap_alloc_new w _)]; rfl
  have C0 : (w.alloc (.cells #[.int .u8 k, .string s, .int .i64 a] 30)).cell? ⟨w.heap.size, 0, none⟩ = some (.int .u8 k) := by
    rw [Lib.cell_of_heap (heap_alloc_new w _)]; rfl
  by_cases k1 : k = 1
  · subst k1
    have HT : Hid (tokOk 1 (strI s) = wordB (strI s) ∧ strOfNums (tokS 1 (strI s)) = s) := ⟨rfl, by rw [show tokS 1 (strI s) = strI s from rfl, str_of_strI]⟩
    by_cases h0 : 0 < s.size
    · have he := size_filled6 s h0
      have hc0 : (0 : Int) ≤ (s[0].toNat : Int) := by omega
      have hc1 : (s[0].toNat : Int) < 256 := by have := s[0].toNat_lt; omega
      have hL := fun wx => refLetter_any (s[0].toNat : Int) wx hc0 hc1
      have hR := fun wx => refRun_any s 0 wx hs' (Nat.zero_le _)
      have h0' : (0 : Int) < (s.size : Int) := by omega
      cases hl : letterB (s[0].toNat : Int)
      · have HO : Hid (oneS 1 s = ⟨#[]⟩ ∧ oneE 1 s = 2) := one_not (HT.out.1.trans (word_first s h0 hl))
        rw [hl] at hL
        clear hl hR
        go_enter Try.func26, Try.ntmps26
        go_wp2_with fail
        generalize w.alloc (.cells #[.int .u8 1, .string s, .int .i64 a] 30) = w1 at *
        go_quiet ((go_at_call 38; exact Calls.quiet_of_same ((hL _).mono fun _ _ h => ⟨h.1, h.2.symm⟩)))
        go_wp2_with fail
        go_ret2
        exact ⟨by rw [HO.out.1, HO.out.2]; rfl, bel_drewN HB.out _⟩
      · have HW : Hid (((s.extract 0 (runE (strI s) 0)).toList == s.toList) = wordB (strI s)) := run_word s h0 hl
        rw [hl] at hL
        clear hl
        generalize s.extract 0 (runE (strI s) 0) = r at *
        cases hq : (r.toList == s.toList)
        · have HO : Hid (oneS 1 s = ⟨#[]⟩ ∧ oneE 1 s = 2) := one_not (HT.out.1.trans (HW.out.symm.trans hq))
          go_enter Try.func26, Try.ntmps26
          go_wp2_with fail
          generalize w.alloc (.cells #[.int .u8 1, .string s, .int .i64 a] 30) = w1 at *
          go_quiet (first | (go_at_call 38; exact Calls.quiet_of_same ((hL _).mono fun _ _ h => ⟨h.1, h.2.symm⟩)) | (go_at_call 39; exact Calls.quiet_of_same ((hR _).mono fun _ _ h => ⟨h.1, h.2.symm⟩)))
          go_wp2_with fail
          go_ret2
          exact ⟨by rw [HO.out.1, HO.out.2]; rfl, bel_drewN HB.out _⟩
        · have HO : Hid (oneS 1 s = s ∧ oneE 1 s = 0) := by
            have := one_ok (HT.out.1.trans (HW.out.symm.trans hq))
            exact ⟨this.1.trans HT.out.2, this.2⟩
          go_enter Try.func26, Try.ntmps26
          go_wp2_with fail
          generalize w.alloc (.cells #[.int .u8 1, .string s, .int .i64 a] 30) = w1 at *
          go_quiet (first | (go_at_call 38; exact Calls.quiet_of_same ((hL _).mono fun _ _ h => ⟨h.1, h.2.symm⟩)) | (go_at_call 39; exact Calls.quiet_of_same ((hR _).mono fun _ _ h => ⟨h.1, h.2.symm⟩)))
          go_wp2_with fail
          go_ret2
          exact ⟨by rw [HO.out.1, HO.out.2]; rfl, bel_drewN HB.out _⟩
    · have he := size_empty6 s (by omega)
      have HO : Hid (oneS 1 s = ⟨#[]⟩ ∧ oneE 1 s = 2) := one_not (HT.out.1.trans (word_none s (by omega)))
      clear h0
      go_enter Try.func26, Try.ntmps26
      go_wp2_with fail
      generalize w.alloc (.cells #[.int .u8 1, .string s, .int .i64 a] 30) = w1 at *
      go_quiet (fail)
      go_wp2_with fail
      go_ret2
      exact ⟨by rw [HO.out.1, HO.out.2]; rfl, bel_drewN HB.out _⟩
  by_cases k2 : k = 2
  · subst k2
    have HT : Hid (tokOk 2 (strI s) = plainB (strI s)) := rfl
    have HS : Hid (strOfNums (tokS 2 (strI s)) = { data := #[37] } ++ s) := by
      show _ = _
      rw [show tokS 2 (strI s) = [37] ++ strI s from rfl, strOfNums_append, str_of_strI]; rfl
    have hW := fun wx => refPlain_any s wx hs'
    have HY : Hid (plainB (strI s) = true → oneS 2 s = { data := #[37] } ++ s ∧ oneE 2 s = 0) := fun h => by
      have := one_ok (HT.out.trans h)
      exact ⟨this.1.trans HS.out, this.2⟩
    have HN : Hid (plainB (strI s) = false → oneS 2 s = ⟨#[]⟩ ∧ oneE 2 s = 2) := fun h => one_not (HT.out.trans h)
    clear HT HS
    have hz : (⟨#[37]⟩ : ByteArray).size = 1 := rfl
    cases hp : plainB (strI s)
    · have HO : Hid (oneS 2 s = ⟨#[]⟩ ∧ oneE 2 s = 2) := HN.out hp
      rw [hp] at hW
      clear hp HY HN
      go_enter Try.func26, Try.ntmps26
      go_wp2_with fail
      refine (hW _).mono ?_
      rintro e w2 ⟨⟨x, rfl, _, _⟩, rfl⟩
      go_wp2_with fail
      go_ret2
      exact ⟨by rw [HO.out.1, HO.out.2]; rfl, HB.out⟩
    · have HO : Hid (oneS 2 s = { data := #[37] } ++ s ∧ oneE 2 s = 0) := HY.out hp
      rw [hp] at hW
      clear hp HY HN
      go_enter Try.func26, Try.ntmps26
      go_wp2_with fail
      refine (hW _).mono ?_
      rintro e w2 ⟨⟨x, rfl, _, _⟩, rfl⟩
      go_wp2_with fail
      go_ret2
      exact ⟨by rw [HO.out.1, HO.out.2]; rfl, HB.out⟩
  by_cases k3 : k = 3
  · subst k3
    have HT : Hid (tokOk 3 (strI s) = numB (strI s) ∧ strOfNums (tokS 3 (strI s)) = s) := ⟨rfl, by rw [show tokS 3 (strI s) = strI s from rfl, str_of_strI]⟩
    have hW := fun wx => refNumber_any s wx hs'
    have HE : Hid ((numErr (strI s) == 0) = numB (strI s)) := by show _ = _; unfold numErr; cases numB (strI s) <;> rfl
    cases hp : numB (strI s)
    · have HO : Hid (oneS 3 s = ⟨#[]⟩ ∧ oneE 3 s = 2) := one_not (HT.out.1.trans hp)
      have he : (numErr (strI s) == 0) = false := HE.out.trans hp
      generalize numErr (strI s) = ne at *
      generalize numOut (strI s) = no at *
      clear hp HE HT
      go_enter Try.func26, Try.ntmps26
      go_wp2_with fail
      refine (hW _).mono ?_
      rintro e w2 ⟨rfl, rfl⟩
      go_wp2_with fail
      go_ret2
      exact ⟨by rw [HO.out.1, HO.out.2]; rfl, HB.out⟩
    · have HO : Hid (oneS 3 s = s ∧ oneE 3 s = 0) := by
        have := one_ok (HT.out.1.trans hp)
        exact ⟨this.1.trans HT.out.2, this.2⟩
      have he : (numErr (strI s) == 0) = true := HE.out.trans hp
      generalize numErr (strI s) = ne at *
      generalize numOut (strI s) = no at *
      clear hp HE HT
      go_enter Try.func26, Try.ntmps26
      go_wp2_with fail
      refine (hW _).mono ?_
      rintro e w2 ⟨rfl, rfl⟩
      go_wp2_with fail
      go_ret2
      exact ⟨by rw [HO.out.1, HO.out.2]; rfl, HB.out⟩
  by_cases k4 : k = 4
  · subst k4
    have HO : Hid (oneS 4 s = strOfNums (quoteL (strI s)) ∧ oneE 4 s = 0) := one_ok (k := 4) rfl
    have hQ := fun wx => refQuote_any s wx hs
    generalize strOfNums (quoteL (strI s)) = q at *
    go_enter Try.func26, Try.ntmps26
    go_wp2_with fail
    refine (hQ _).mono ?_
    rintro e w2 ⟨rfl, hb⟩
    go_wp2_with fail
    go_ret2
    exact ⟨by rw [HO.out.1, HO.out.2]; rfl, HB.out.trans (hb.mono (by simp))⟩
  have b1 : (k == 1) = false := by simpa using k1
  have b2 : (k == 2) = false := by simpa using k2
  have b3 : (k == 3) = false := by simpa using k3
  have b4 : (k == 4) = false := by simpa using k4
  by_cases k5 : k = 5
  · subst k5
    have HT : Hid (tokOk 5 (strI s) = (s.toList == [61])) := by
      show _ = _
      have := eq_strI s ⟨#[61]⟩
      rw [show (⟨#[61]⟩ : ByteArray).toList = [61] by rw [ByteArray.toList_eq], show strI ⟨#[61]⟩ = [61] by decide] at this
      rw [this]; rfl
    cases hp : (s.toList == [61])
    · have HO : Hid (oneS 5 s = ⟨#[]⟩ ∧ oneE 5 s = 2) := one_not (HT.out.trans hp)
      go_enter Try.func26, Try.ntmps26
      go_wp2_with fail
      go_ret2
      exact ⟨by rw [HO.out.1, HO.out.2]; rfl, HB.out⟩
    · have HO : Hid (oneS 5 s = ⟨#[61]⟩ ∧ oneE 5 s = 0) := by
        have h1 := one_ok (HT.out.trans hp)
        refine ⟨h1.1.trans ?_, h1.2⟩
        rw [show tokS 5 (strI s) = strI s from rfl, str_of_strI]
        have h2 := eq_of_beq hp
        rw [ByteArray.toList_eq] at h2
        obtain ⟨⟨l⟩⟩ := s
        simp only at h2
        rw [h2]
      go_enter Try.func26, Try.ntmps26
      go_wp2_with fail
      go_ret2
      exact ⟨by rw [HO.out.1, HO.out.2]; rfl, HB.out⟩
  have b5 : (k == 5) = false := by simpa using k5
  have HO : Hid (oneS k s = ⟨#[]⟩ ∧ oneE k s = 2) := one_not (by simp [tokOk, k1, k2, k3, k4, k5])
  clear k1 k2 k3 k4 k5
  go_enter Try.func26, Try.ntmps26
  go_wp2_with fail
  go_ret2
  exact ⟨by rw [HO.out.1, HO.out.2]; rfl, HB.out⟩

set_option maxHeartbeats 2000000 in
theorem refWrite_any (a : Option Addr) (n cap : Nat) (l : List TokT) (w : World) (hv : ToksV w a l) (hl : l.length = n) (hok : ToksIn l) (hu : bulkT l + n ≤ 1048576) :
    Calls Try.prog 13 #[.slice a n cap] w fun e w' => e = .returned (.tuple #[.string (strOfNums (wOut l)), .int .i64 (wErr l)]) ∧ Below w.heap.size w w' := by
  have HL : Hid (l.length = n) := hl
  have HV : Hid (ToksV w a l) := hv
  have HK : Hid (ToksIn l) := hok
  have HLEN : Hid (∀ k, k ≤ n → (strOfNums ((wAll (l.take k)).drop 1)).size ≤ 4194304) := fun k hk => by
    have h1 := wAll_len (l.take k)
    have h2 := bulkT_take l k
    rw [List.length_take, HL.out] at h1
    rw [strOfNums_size, List.length_drop]; omega
  have HBK : Hid (∀ k, k < n → (nthT l k).2.1.size ≤ bulkT l) := fun k hk => bulkT_at l k (by rw [HL.out]; exact hk)
  have HN : Hid (∀ k, k < n → tokOk (nthT l k).1 (strI (nthT l k).2.1) = false → wOk l = false) := fun k hk h => wOk_not (by rw [HL.out]; exact hk) h
  have HA : Hid ((∀ k, k < n → tokOk (nthT l k).1 (strI (nthT l k).2.1) = true) → wOk l = true) := fun h => wOk_all (by rw [HL.out]; exact h)
  have HU : Hid (bulkT l + n ≤ 1048576) := hu
  have hli : (n : Int) ≤ 1048576 := by omega
  clear hv hl hok hu
  go_enter Try.func13, Try.ntmps13
  go_wp2_with fail
  go_loopw [4, 5] (fun t i wr => ∃ k : Nat, k ≤ n ∧ i = .int .i64 k ∧ t = .string (strOfNums ((wAll (l.take k)).drop 1)) ∧ Below w.heap.size w wr ∧ ∀ j, j < k → tokOk (nthT l j).1 (strI (nthT l j).2.1) = true) (fun _ i _ => n - (intOf i).toNat)
  case atStart => exact ⟨0, Nat.zero_le _, rfl, rfl, Below.refl _ _, fun j hj => by omega⟩
  case round =>
    obtain ⟨k, hk, rfl, rfl, hbel, hall⟩ := hrel
    have hlen := HLEN.out k hk
    have hsz := hbel.size
    by_cases hlt : k < n
    · obtain ⟨b, off, rfl, hblt, c0, c1, c2⟩ := HV.out k (by rw [HL.out]; exact hlt)
      obtain ⟨t0, t1, t2, t3, t4⟩ := HK.out k (by rw [HL.out]; exact hlt)
      have hbk := HBK.out k hlt
      have EN : Hid (tokOk (nthT l k).1 (strI (nthT l k).2.1) = false → wOk l = false) := HN.out k hlt
      have d0 := (hbel.cell (p := ⟨b, off + k * 3, none⟩) hblt).trans c0
      have d1 := (hbel.cell (p := ⟨b, off + k * 3 + 1, none⟩) hblt).trans c1
      have d2 := (hbel.cell (p := ⟨b, off + k * 3 + 2, none⟩) hblt).trans c2
      have EA : Hid (tokOk (nthT l k).1 (strI (nthT l k).2.1) = true → ∀ j, j < k + 1 → tokOk (nthT l j).1 (strI (nthT l j).2.1) = true) := fun h j hj => by
        by_cases e : j = k
        · subst e; exact h
        · exact hall j (by omega)
      have E0 : Hid (k = 0 → strOfNums ((wAll (l.take (k + 1))).drop 1) = strOfNums ((wAll (l.take k)).drop 1) ++ strOfNums (tokS (nthT l k).1 (strI (nthT l k).2.1))) := fun e => by
        subst e
        rw [wAll_drop0 l (by rw [HL.out]; omega), ← strOfNums_append]; rfl
      have E1 : Hid (0 < k → strOfNums ((wAll (l.take (k + 1))).drop 1) = strOfNums ((wAll (l.take k)).drop 1) ++ { data := #[32] } ++ strOfNums (tokS (nthT l k).1 (strI (nthT l k).2.1))) := fun e => by
        rw [wAll_dropS l k e (by rw [HL.out]; omega), strOfNums_append, strOfNums_append]; rfl
      have hki : (k : Int) < (n : Int) := by omega
      have hk0 : (0 : Int) ≤ (k : Int) := by omega
      clear c0 c1 c2 hall
      generalize (nthT l k).1 = tk at *
      generalize (nthT l k).2.1 = ts at *
      generalize (nthT l k).2.2 = ta at *
      have hTL : (strOfNums (tokS tk (strI ts))).size ≤ 4 * ts.size + 2 := by rw [strOfNums_size]; have := tokS_len tk (strI ts); rw [strI_len] at this; exact this
      have hON := fun wx => refOne_any tk ts ta wx t0 t1 (by have := HU.out; omega)
      have hz : (⟨#[32]⟩ : ByteArray).size = 1 := rfl
      have hts : ts.size ≤ 1048576 := by have := HU.out; omega
      cases hok : tokOk tk (strI ts)
      · rw [(one_not hok).1, (one_not hok).2] at hON
        have HF : Hid (wOk l = false) := EN.out hok
        have HO : Hid (strOfNums (wOut l) = ⟨#[]⟩ ∧ wErr l = 2) := by
          have := HF.out
          show _ ∧ _
          unfold wOut wErr; rw [this]; exact ⟨rfl, rfl⟩
        clear hok EA EN E0 E1 HF
        generalize strOfNums ((wAll (l.take k)).drop 1) = zs at *
        go_wp2_with fail
        refine (hON _).mono ?_
        rintro e w2 ⟨rfl, hb2⟩
        have HB2 : Hid (Below w.heap.size w w2) := hbel.trans (hb2.mono hsz)
        clear hb2
        go_wp2_with fail
        go_ret2
        exact ⟨by rw [HO.out.1, HO.out.2]; rfl, HB2.out⟩
      · rw [(one_ok hok).1, (one_ok hok).2] at hON
        have HA2 := hid1 (EA.out hok)
        clear hok EA EN
        generalize strOfNums (tokS tk (strI ts)) = tz at *
        by_cases hk1 : 0 < k
        · have E := hid1 (E1.out hk1)
          have hk1' : (0 : Int) < (k : Int) := by omega
          clear E0 E1
          generalize strOfNums ((wAll (l.take k)).drop 1) = zs at *
          go_wp2_with fail
          refine (hON _).mono ?_
          rintro e w2 ⟨rfl, hb2⟩
          have HB2 : Hid (Below w.heap.size w w2) := hbel.trans (hb2.mono hsz)
          clear hb2
          go_wp2_with fail
          go_roundw
          case rel => exact ⟨k + 1, by omega, by go_num, by rw [E.out], HB2.out, HA2.out⟩
          case measure => simp [intOf]; omega
        · obtain rfl : k = 0 := by omega
          have E := hid1 (E0.out rfl)
          simp only [Nat.zero_mul, Nat.add_zero] at d0 d1 d2
          clear E0 E1
          generalize strOfNums ((wAll (l.take 0)).drop 1) = zs at *
          go_wp2_with fail
          refine (hON _).mono ?_
          rintro e w2 ⟨rfl, hb2⟩
          have HB2 : Hid (Below w.heap.size w w2) := hbel.trans (hb2.mono hsz)
          clear hb2
          go_wp2_with fail
          go_roundw
          case rel => exact ⟨0 + 1, by omega, by go_num, by rw [E.out], HB2.out, HA2.out⟩
          case measure => simp [intOf]; omega
    · obtain rfl : k = n := by omega
      have HF : Hid (strOfNums (wOut l) = strOfNums ((wAll (l.take k)).drop 1) ∧ wErr l = 0) := by
        have := HA.out hall
        show _ ∧ _
        unfold wOut wErr; rw [this, List.take_of_length_le (by have := HL.out; omega)]; exact ⟨rfl, rfl⟩
      clear hall
      generalize strOfNums ((wAll (l.take k)).drop 1) = zs at *
      go_wp2_with fail
      go_ret2
      exact ⟨by rw [HF.out.1, HF.out.2]; rfl, hbel⟩

end Go.Proofs.Ytccllonkhklldab
