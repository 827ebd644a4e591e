/-
  What written and Write of the layer lex return, for every list of tokens whose line keeps to Go's own limit of a length; nothing that was there turns.
-/
import Derived.WalkSpells
import Derived.WalkMore
import Derived.Test.YtccllonkhklldabProg
import Derived.Test.YtccllonkhklldabToks
import Derived.Test.YtccllonkhklldabLexWords
import Derived.Test.YtccllonkhklldabLexQuote
namespace Go.Proofs.Ytccllonkhklldab
open Go.RowKit
set_option maxRecDepth 10000
set_option linter.unusedVariables false
set_option linter.unusedSimpArgs false

theorem written_any (k : Int) (s : ByteArray) (a : Int) (w : World) (hk0 : 0 ≤ k) (hk1 : k < 256) (hs : 4 * s.size + 2 ≤ 140737488355328) :
    Calls Try.prog 30 #[.agg #[.int .u8 k, .string s, .int .i64 a]] w fun e w' => e = .returned (.string (strOfNums (tokS k (strI s)))) ∧ Below w.heap.size w w' := by
  have HB : Hid (Below w.heap.size w (w.alloc (.cells #[.int .u8 k, .string s, .int .i64 a] 30))) := (Below.refl _ w).alloc (Nat.le_refl _) _
  by_cases k2 : k = 2
  · subst k2
    have HT : Hid (strOfNums (tokS 2 (strI s)) = { data := #[37] } ++ s) := by
      show _ = _
      rw [show tokS 2 (strI s) = [37] ++ strI s from rfl, strOfNums_append, str_of_strI]; rfl
    go_enter Try.func30, Try.ntmps30
    go_wp2_with fail
    go_ret
    exact ⟨by rw [HT.out]; rfl, HB.out⟩
  by_cases k4 : k = 4
  · subst k4
    have HT : Hid (tokS 4 (strI s) = quoteL (strI s)) := rfl
    have hQ := fun wx => quote_any s wx hs
    go_enter Try.func30, Try.ntmps30
    go_wp2_with fail
    refine (hQ _).mono ?_
    rintro e w' ⟨rfl, hb⟩
    go_wp2_with fail
    go_ret
    exact ⟨by rw [HT.out]; rfl, HB.out.trans (hb.mono (by simp))⟩
  have HT : Hid (strOfNums (tokS k (strI s)) = s) := by
    show _ = _
    rw [show tokS k (strI s) = strI s by simp [tokS, k2, k4], str_of_strI]
  have b2 : (k == 2) = false := by simpa using k2
  have b4 : (k == 4) = false := by simpa using k4
  clear k2 k4
  go_enter Try.func30, Try.ntmps30
  go_wp2_with fail
  go_ret
  exact ⟨by rw [HT.out]; rfl, HB.out⟩

set_option maxHeartbeats 2000000 in
theorem write_any (a : Option Addr) (n cap : Nat) (l : List TokT) (w : World) (hv : ToksV w a l) (hl : l.length = n) (hok : ToksIn l) (hu : 4 * bulkT l + 3 * n ≤ 140737488351232) :
    Calls Try.prog 14 #[.slice a n cap] w fun e w' => e = .returned (.tuple #[.string (strOfNums (wOut l)), .int .i64 (wErr l)]) ∧ Below w.heap.size w w' := by
  have HL : Hid (l.length = n) := hl
  have HV : Hid (ToksV w a l) := hv
  have HK : Hid (ToksIn l) := hok
  have HLEN : Hid (∀ k, k ≤ n → ((wAll (l.take k)).drop 1).length ≤ 4 * bulkT l + 3 * n) := fun k hk => by
    have h1 := wAll_len (l.take k)
    have h2 := bulkT_take l k
    rw [List.length_take, HL.out] at h1
    rw [List.length_drop]; omega
  have HBK : Hid (∀ k, k < n → (nthT l k).2.1.size ≤ bulkT l) := fun k hk => bulkT_at l k (by rw [HL.out]; exact hk)
  have HN : Hid (∀ k, k < n → tokOk (nthT l k).1 (strI (nthT l k).2.1) = false → wOk l = false) := fun k hk h => wOk_not (by rw [HL.out]; exact hk) h
  have HA : Hid ((∀ k, k < n → tokOk (nthT l k).1 (strI (nthT l k).2.1) = true) → wOk l = true) := fun h => wOk_all (by rw [HL.out]; exact h)
  have hli : (n : Int) ≤ 140737488351232 := by omega
  have HU : Hid (4 * bulkT l + 3 * n ≤ 140737488351232) := hu
  have h0 := bld_new w w.heap.size (Nat.le_refl _)
  have b0 : Below w.heap.size w (w.alloc (.cells #[.pointer none, .slice none 0 0] 59)) := (Below.refl _ w).alloc (Nat.le_refl _) _
  have H0 : Hid (Bld w.heap.size w.heap.size [] (w.alloc (.cells #[.pointer none, .slice none 0 0] 59))) := h0
  clear hv hl hok hu h0
  go_enter Try.func14, Try.ntmps14
  go_wp2_with fail
  go_loopw [9] (fun i wr => ∃ k : Nat, k ≤ n ∧ i = .int .i64 k ∧ Bld w.heap.size w.heap.size ((wAll (l.take k)).drop 1) wr ∧ Below w.heap.size w wr ∧ ∀ j, j < k → tokOk (nthT l j).1 (strI (nthT l j).2.1) = true) (fun i _ => n - (intOf i).toNat)
  case atStart => exact ⟨0, Nat.zero_le _, rfl, H0.out, b0, fun j hj => by omega⟩
  case round =>
    obtain ⟨k, hk, rfl, hB, hbel, hall⟩ := hrel
    have hlen := HLEN.out k hk
    have hsz := hbel.size
    have hwlt : w.heap.size < wr.heap.size := bld_lt hB
    clear H0 b0
    by_cases hlt : k < n
    · obtain ⟨b, off, rfl, hblt, c0, c1, c2⟩ := HV.out k (by rw [HL.out]; exact hlt)
      obtain ⟨t0, t1, t2, t3, t4⟩ := HK.out k (by rw [HL.out]; exact hlt)
      have hbk := HBK.out k hlt
      have EN : Hid (tokOk (nthT l k).1 (strI (nthT l k).2.1) = false → wOk l = false) := HN.out k hlt
      have d0 := (hbel.cell (p := ⟨b, off + k * 3, none⟩) hblt).trans c0
      have d1 := (hbel.cell (p := ⟨b, off + k * 3 + 1, none⟩) hblt).trans c1
      have d2 := (hbel.cell (p := ⟨b, off + k * 3 + 2, none⟩) hblt).trans c2
      have EA : Hid (tokOk (nthT l k).1 (strI (nthT l k).2.1) = true → ∀ j, j < k + 1 → tokOk (nthT l j).1 (strI (nthT l j).2.1) = true) := fun h j hj => by
        by_cases e : j = k
        · subst e; exact h
        · exact hall j (by omega)
      have E0 : Hid (k = 0 → (wAll (l.take (k + 1))).drop 1 = (wAll (l.take k)).drop 1 ++ tokS (nthT l k).1 (strI (nthT l k).2.1)) := fun e => by
        subst e
        rw [wAll_drop0 l (by rw [HL.out]; omega)]; rfl
      have E1 : Hid (0 < k → (wAll (l.take (k + 1))).drop 1 = ((wAll (l.take k)).drop 1 ++ [32]) ++ tokS (nthT l k).1 (strI (nthT l k).2.1)) := fun e => wAll_dropS l k e (by rw [HL.out]; omega)
      clear c0 c1 c2 hall
      generalize (nthT l k).1 = tk at *
      generalize (nthT l k).2.1 = ts at *
      generalize (nthT l k).2.2 = ta at *
      generalize (wAll (l.take k)).drop 1 = zs at *
      have hMB := fun wx => mayBe_any tk ts ta wx t0 t1 t2
      have hWR := fun wx => written_any tk ts ta wx t0 t1 (by have := HU.out; omega)
      have hBa := bld_alloc hB (.cells #[.int .u8 tk, .string ts, .int .i64 ta] 30)
      have hba := hbel.alloc hsz (.cells #[.int .u8 tk, .string ts, .int .i64 ta] 30)
      have hbx : (wr.alloc (.cells #[.int .u8 tk, .string ts, .int .i64 ta] 30)).heap[wr.heap.size]? = some (.cells #[.int .u8 tk, .string ts, .int .i64 ta] 30 (0, 0)) := heap_alloc_new wr _
      have hlx : wr.heap.size < (wr.alloc (.cells #[.int .u8 tk, .string ts, .int .i64 ta] 30)).heap.size := by simp
      have hTL : (strOfNums (tokS tk (strI ts))).size ≤ 4 * ts.size + 2 := by rw [strOfNums_size]; have := tokS_len tk (strI ts); rw [strI_len] at this; exact this
      have HTL : Hid ((strOfNums (tokS tk (strI ts))).size ≤ 4 * ts.size + 2) := hTL
      have HSW : Hid (strI (strOfNums (tokS tk (strI ts))) = tokS tk (strI ts)) := strI_of (tokS_within (strI_within ts))
      clear hB hTL
      go_wp2_with fail
      generalize wr.alloc (.cells #[.int .u8 tk, .string ts, .int .i64 ta] 30) = W1 at hBa hba hbx hlx ⊢
      refine (hMB _).mono ?_
      rintro e w2 ⟨rfl, hb2⟩
      have hB2 := bld_below hBa hb2
      have hbx2 := (hb2.block _ hlx).trans hbx
      have hbel2 := hba.trans (hb2.mono hba.size)
      clear hBa hbx hba hb2 hlx hMB
      generalize tokOk tk (strI ts) = B at *
      cases B
      · have HF : Hid (wOk l = false) := EN.out rfl
        have HO : Hid (strOfNums (wOut l) = ⟨#[]⟩ ∧ wErr l = 2) := by
          have := HF.out
          show _ ∧ _
          unfold wOut wErr; rw [this]; exact ⟨rfl, rfl⟩
        clear hB2 hbx2
        go_wp2_with fail
        go_ret2
        exact ⟨by rw [HO.out.1, HO.out.2]; rfl, hbel2⟩
      · have HR : Hid (∀ j, j < k + 1 → tokOk (nthT l j).1 (strI (nthT l j).2.1) = true) := EA.out rfl
        clear EA EN
        by_cases hk0 : k = 0
        · have HE := E0.out hk0
          subst hk0
          have x0 : w2.cell? ⟨wr.heap.size, 0, none⟩ = some (.int .u8 tk) := by rw [Lib.cell_of_heap hbx2]; rfl
          have x1 : w2.cell? ⟨wr.heap.size, 1, none⟩ = some (.string ts) := by rw [Lib.cell_of_heap hbx2]; rfl
          have x2 : w2.cell? ⟨wr.heap.size, 2, none⟩ = some (.int .i64 ta) := by rw [Lib.cell_of_heap hbx2]; rfl
          have HEH : Hid ((wAll (l.take (0 + 1))).drop 1 = zs ++ tokS tk (strI ts)) := HE
          clear hbx2 E0 E1 HE
          go_wp2_with fail
          refine (hWR _).mono ?_
          rintro e w3 ⟨rfl, hb3⟩
          have hbel3 := hbel2.trans (hb3.mono hbel2.size)
          have hW2 := writeString_any w.heap.size w.heap.size zs (strOfNums (tokS tk (strI ts))) w3 (bld_below hB2 hb3) (by have h1 := HLEN.out (0 + 1) (by omega); rw [HEH.out, List.length_append] at h1; rw [strOfNums_size]; have := HU.out; omega) hbel3.size
          rw [HSW.out] at hW2
          clear hB2 x0 x1 x2 hWR hb3 hbel2
          go_wp2_with fail
          refine hW2.mono ?_
          rintro e w4 ⟨rfl, hB4, hb4, _⟩
          clear hW2
          go_wp2_with fail
          go_roundw
          case rel => exact ⟨0 + 1, by omega, by go_num, by rw [HEH.out]; exact hB4, hbel3.trans hb4, HR.out⟩
          case measure => simp [intOf]; omega
        · have HEH : Hid ((wAll (l.take (k + 1))).drop 1 = (zs ++ [32]) ++ tokS tk (strI ts)) := E1.out (by omega)
          have hkp : (0 : Int) < (k : Int) := by omega
          have hW1 := writeByte_any w.heap.size w.heap.size zs 32 w2 hB2 (by have := HU.out; omega) hbel2.size
          clear E0 E1 hB2
          go_wp2_with fail
          refine hW1.mono ?_
          rintro e w3 ⟨rfl, hB3, hb3, hk3⟩
          have hbx3 := hk3 _ _ hbx2 (by simp; omega) (fun c fz => by simp)
          have hbel3 := hbel2.trans hb3
          have x0 : w3.cell? ⟨wr.heap.size, 0, none⟩ = some (.int .u8 tk) := by rw [Lib.cell_of_heap hbx3]; rfl
          have x1 : w3.cell? ⟨wr.heap.size, 1, none⟩ = some (.string ts) := by rw [Lib.cell_of_heap hbx3]; rfl
          have x2 : w3.cell? ⟨wr.heap.size, 2, none⟩ = some (.int .i64 ta) := by rw [Lib.cell_of_heap hbx3]; rfl
          clear hbx2 hbx3 hk3 hb3 hW1 hbel2
          go_wp2_with fail
          refine (hWR _).mono ?_
          rintro e w4 ⟨rfl, hb4⟩
          have hbel4 := hbel3.trans (hb4.mono hbel3.size)
          have hW2 := writeString_any w.heap.size w.heap.size (zs ++ [32]) (strOfNums (tokS tk (strI ts))) w4 (bld_below hB3 hb4) (by have h1 := HLEN.out (k + 1) (by omega); rw [HEH.out, List.length_append] at h1; rw [strOfNums_size]; have := HU.out; omega) hbel4.size
          rw [HSW.out] at hW2
          clear hB3 x0 x1 x2 hWR hb4 hbel3
          go_wp2_with fail
          refine hW2.mono ?_
          rintro e w5 ⟨rfl, hB5, hb5, _⟩
          clear hW2
          go_wp2_with fail
          go_roundw
          case rel => exact ⟨k + 1, by omega, by go_num, by rw [HEH.out]; exact hB5, hbel4.trans hb5, HR.out⟩
          case measure => simp [intOf]; omega
    · obtain rfl : k = n := by omega
      have HT : Hid (wOk l = true) := HA.out hall
      have HO : Hid ((wAll (l.take k)).drop 1 = wOut l ∧ wErr l = 0) := by
        have := HT.out
        show _ ∧ _
        unfold wOut wErr
        rw [this, List.take_of_length_le (by rw [HL.out]; omega)]; exact ⟨rfl, rfl⟩
      rw [HO.out.1] at hB
      have hW2 := buildString_any w.heap.size w.heap.size _ wr hB (by rw [← HO.out.1]; exact within_drop (wAll_within _) 1) hsz
      clear hall hB hlen
      go_wp2_with fail
      refine hW2.mono ?_
      rintro e w2 ⟨rfl, h2, b2, _⟩
      clear hW2 h2
      go_wp2_with fail
      go_ret2
      exact ⟨by rw [HO.out.2]; rfl, hbel.trans b2⟩

end Go.Proofs.Ytccllonkhklldab
