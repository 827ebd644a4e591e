/-
  Texts laid together in one: WordsText, WordsText2, SlicesClone, Ref01Byte, Ref01Text, WordsTextSame, WordsReader, WordsReaderCalls.
-/
import Derived.WalkSpells
import Derived.Test.YtmobologlaeefaaGreatB01
import Derived.Test.YtmobologlaeefaaGreatB11
import Derived.Test.YtmobologlaeefaaGreatB19
import Derived.Test.YtmobologlaeefaaGreatB09
import Derived.Test.YtmobologlaeefaaGreatProg
import Derived.Deep.QuietTactic
import Derived.BigQuiet
/-
  What Text of the words package returns, for every list of words: its error, or the text at their front and how many words it takes.
-/
namespace Go.Proofs.YtmobologlaeefaaGreat
open Go.RowKit
set_option maxRecDepth 10000

theorem text_none (a : Option Addr) (n cap : Nat) (zs : List Int) (w : World) (ha : View .u32 w a zs) (hl : zs.length = n) (hw : Within 4294967296 zs) (hn : 4 * n ≤ 281474976710656) (h : ∀ i, i < 4 * n → nth (joinL zs) i ≠ 0) :
    Calls Tryz.prog 186 #[.slice a n cap] w fun e w' => e = .returned (.tuple #[.string ⟨#[]⟩, .int .i64 0, .int .i64 11]) ∧ w = w' := by
  have hT := textEnd_none a n cap zs w ha hl hw hn h
  clear ha hl hw h
  go_enter Tryz.func186, Tryz.ntmps186
  go_wp2_with fail
  refine hT.mono ?_
  rintro e w' ⟨rfl, rfl⟩
  go_wp2
  go_ret3
  exact ⟨rfl, rfl⟩

set_option maxHeartbeats 1000000 in
theorem text_pad (a : Option Addr) (n cap : Nat) (zs : List Int) (w : World) (L P : Nat) (ha : View .u32 w a zs) (hl : zs.length = n) (hw : Within 4294967296 zs) (hn : 4 * n ≤ 281474976710656)
    (hL : L < n) (hP : P < 4) (h : ∀ i, i < 4 * L + P → nth (joinL zs) i ≠ 0) (h0 : nth (joinL zs) (4 * L + P) = 0) (hpad : nth zs L / 256 ^ P ≠ 0) :
    Calls Tryz.prog 186 #[.slice a n cap] w fun e w' => e = .returned (.tuple #[.string ⟨#[]⟩, .int .i64 0, .int .i64 12]) ∧ w = w' := by
  have hT := textEnd_at a n cap zs w L P ha hl hw hn hL hP h h0
  obtain ⟨b, off, rfl, _, hc⟩ := ha L (by omega)
  have hx := hw.at (k := L) (by omega)
  clear ha hl hw h h0
  generalize nth zs L = x at hc hx hpad
  have hx0 := hx.1
  have hx1 := hx.2
  have hLi : (L : Int) < (n : Int) := by omega
  rcases (show P = 0 ∨ P = 1 ∨ P = 2 ∨ P = 3 by omega) with rfl | rfl | rfl | rfl
  · have hne : (x == 0) = false := by simpa using hpad
    clear hx hpad
    go_enter Tryz.func186, Tryz.ntmps186
    go_wp2_with fail
    refine hT.mono ?_
    rintro e w' ⟨rfl, rfl⟩
    go_wp2
    go_ret3
    exact ⟨rfl, rfl⟩
  · have hne : (x / 256 == 0) = false := by simpa using hpad
    clear hx hpad
    go_enter Tryz.func186, Tryz.ntmps186
    go_wp2_with fail
    refine hT.mono ?_
    rintro e w' ⟨rfl, rfl⟩
    go_wp2
    go_ret3
    exact ⟨rfl, rfl⟩
  · have hne : (x / 65536 == 0) = false := by simpa using hpad
    clear hx hpad
    go_enter Tryz.func186, Tryz.ntmps186
    go_wp2_with fail
    refine hT.mono ?_
    rintro e w' ⟨rfl, rfl⟩
    go_wp2
    go_ret3
    exact ⟨rfl, rfl⟩
  · have hne : (x / 16777216 == 0) = false := by simpa using hpad
    clear hx hpad
    go_enter Tryz.func186, Tryz.ntmps186
    go_wp2_with fail
    refine hT.mono ?_
    rintro e w' ⟨rfl, rfl⟩
    go_wp2
    go_ret3
    exact ⟨rfl, rfl⟩

set_option maxHeartbeats 1000000 in
theorem text_ok (a : Option Addr) (n cap : Nat) (zs : List Int) (w : World) (L P : Nat) (ha : View .u32 w a zs) (hl : zs.length = n) (hw : Within 4294967296 zs) (hn : 4 * n ≤ 281474976710656) (hLb : 4 * (L + 1) ≤ 140737488351232) (hcap : n ≤ cap)
    (hL : L < n) (hP : P < 4) (h : ∀ i, i < 4 * L + P → nth (joinL zs) i ≠ 0) (h0 : nth (joinL zs) (4 * L + P) = 0) (hpad : nth zs L / 256 ^ P = 0) :
    Calls Tryz.prog 186 #[.slice a n cap] w fun e w' => e = .returned (.tuple #[.string (strOfNums ((joinL zs).take (4 * L + P))), .int .i64 ((L : Int) + 1), .int .i64 0]) ∧ Below w.heap.size w w' := by
  have hT := textEnd_at a n cap zs w L P ha hl hw hn hL hP h h0
  have hJ := join_any a (L + 1) cap (zs.take (L + 1)) w (ha.take _) (by rw [List.length_take]; omega) hLb (within_of_take hw)
  obtain ⟨b, off, rfl, _, hc⟩ := ha L (by omega)
  have hx := hw.at (k := L) (by omega)
  have e1 : joinL (zs.take (L + 1)) = (joinL zs).take (4 * (L + 1)) := joinL_take zs (L + 1)
  have hlen : (joinL zs).length = 4 * n := by rw [joinL_len, hl]
  rw [e1] at hJ
  clear ha hl hw h h0 e1
  generalize nth zs L = x at hc hx hpad
  generalize joinL zs = js at *
  have hx0 := hx.1
  have hx1 := hx.2
  have hLi : (L : Int) < (n : Int) := by omega
  have HJL : Hid (js.length = 4 * n) := hlen
  have HC : Hid (∀ (w' : World), w'.ownsRow w.heap.size 5 1 (.slice (some ⟨w.heap.size, 0, none⟩) (4 * (L + 1)) (4 * (L + 1))) (4 * (L + 1)) ((js.take (4 * (L + 1))).map (Value.int .u8)) →
      (convert 43 9 (.slice (some ⟨w.heap.size, 0, none⟩) (4 * L + P) (4 * (L + 1)))).run Tryz.prog w' = .ok (.string (strOfNums (js.take (4 * L + P)))) w') := fun w' hown => by
    refine run_convert_bytes_arg w' _ _ Tryz.underlying43 Tryz.underlying5 w.heap.size 0 (4 * L + P) (4 * (L + 1)) (js.take (4 * L + P)) (by rw [List.length_take, HJL.out]; omega) (fun i hi => ?_) _ Tryz.underlying9
    obtain ⟨b', off', e, _, hcell⟩ := View.ofRow hown (by rw [List.length_take, HJL.out]; omega) i (by rw [List.length_take, HJL.out]; omega)
    simp at e
    obtain ⟨rfl, rfl⟩ := e
    rw [hcell, nth_take _ _ _ (by omega)]
    have := nth_take js i (4 * L + P) hi
    rw [← this]; rfl
  clear hlen
  rcases (show P = 0 ∨ P = 1 ∨ P = 2 ∨ P = 3 by omega) with rfl | rfl | rfl | rfl
  · have hne : x = 0 := by simpa using hpad
    have hne' : (x == 0) = true := by simpa using hne
    clear hx hpad hne
    go_enter Tryz.func186, Tryz.ntmps186
    go_wp2_with fail
    refine hT.mono ?_
    rintro e w' ⟨rfl, rfl⟩
    go_wp2_with fail
    refine hJ.mono ?_
    rintro e w1 ⟨rfl, hown, hb⟩
    have hcv := HC.out w1 hown
    rw [Nat.add_zero] at hcv
    rw [Nat.add_zero]
    clear hown HC hT hJ
    go_wp2
    go_ret3
    exact ⟨rfl, hb⟩
  · have hne : x / 256 = 0 := by simpa using hpad
    have hne' : (x / 256 == 0) = true := by simpa using hne
    clear hx hpad hne
    go_enter Tryz.func186, Tryz.ntmps186
    go_wp2_with fail
    refine hT.mono ?_
    rintro e w' ⟨rfl, rfl⟩
    go_wp2_with fail
    refine hJ.mono ?_
    rintro e w1 ⟨rfl, hown, hb⟩
    have hcv := HC.out w1 hown
    clear hown HC hT hJ
    go_wp2
    go_ret3
    exact ⟨rfl, hb⟩
  · have hne : x / 65536 = 0 := by simpa using hpad
    have hne' : (x / 65536 == 0) = true := by simpa using hne
    clear hx hpad hne
    go_enter Tryz.func186, Tryz.ntmps186
    go_wp2_with fail
    refine hT.mono ?_
    rintro e w' ⟨rfl, rfl⟩
    go_wp2_with fail
    refine hJ.mono ?_
    rintro e w1 ⟨rfl, hown, hb⟩
    have hcv := HC.out w1 hown
    clear hown HC hT hJ
    go_wp2
    go_ret3
    exact ⟨rfl, hb⟩
  · have hne : x / 16777216 = 0 := by simpa using hpad
    have hne' : (x / 16777216 == 0) = true := by simpa using hne
    clear hx hpad hne
    go_enter Tryz.func186, Tryz.ntmps186
    go_wp2_with fail
    refine hT.mono ?_
    rintro e w' ⟨rfl, rfl⟩
    go_wp2_with fail
    refine hJ.mono ?_
    rintro e w1 ⟨rfl, hown, hb⟩
    have hcv := HC.out w1 hown
    clear hown HC hT hJ
    go_wp2
    go_ret3
    exact ⟨rfl, hb⟩

end Go.Proofs.YtmobologlaeefaaGreat

/-
  What Text of the words package returns, as one function of the words.
-/
namespace Go.Proofs.YtmobologlaeefaaGreat
open Go.RowKit

theorem text_any (a : Option Addr) (n cap : Nat) (zs : List Int) (w : World) (ha : View .u32 w a zs) (hl : zs.length = n) (hw : Within 4294967296 zs) (hn : 4 * n ≤ 140737488351232) (hcap : n ≤ cap) :
    Calls Tryz.prog 186 #[.slice a n cap] w fun e w' => e = .returned (.tuple #[.string (textI zs).1, .int .i64 (textI zs).2.1, .int .i64 (textI zs).2.2]) ∧ Below w.heap.size w w' := by
  have hj : (joinL zs).length = 4 * n := by rw [joinL_len, hl]
  by_cases h : (joinL zs).length ≤ zeroAt (joinL zs)
  · refine (text_none a n cap zs w ha hl hw (by omega) fun i hi => zeroAt_before _ _ (by omega) (by omega)).mono ?_
    rintro e w' ⟨rfl, rfl⟩
    refine ⟨?_, Below.refl _ _⟩
    rw [textI, if_pos h]
  · have hz : zeroAt (joinL zs) < (joinL zs).length := by omega
    obtain ⟨L, P, hP, hN⟩ : ∃ L P, P < 4 ∧ zeroAt (joinL zs) = 4 * L + P := ⟨zeroAt (joinL zs) / 4, zeroAt (joinL zs) % 4, by omega, by omega⟩
    have hL : L < n := by omega
    have hx := hw.at (k := L) (by omega)
    have hrest := rest_zero (nth zs L) P hP hx.1 hx.2
    have h0 : nth (joinL zs) (4 * L + P) = 0 := by rw [← hN]; exact zeroAt_at _ hz
    have hbyte : ∀ q, q < 4 → nth (joinL zs) (4 * L + q) = byt (nth zs L) q := fun q hq => by
      rw [joinL_getD _ _ (by rw [hl]; omega), show (4 * L + q) / 4 = L by omega, show (4 * L + q) % 4 = q by omega]
    have hbef : ∀ i, i < 4 * L + P → nth (joinL zs) i ≠ 0 := fun i hi => zeroAt_before _ _ (by omega) (by omega)
    have hpi := padBad_iff hN hP (by omega)
    by_cases hpad : nth zs L / 256 ^ P = 0
    · have hp : ¬ padBad (joinL zs) = true := fun h => by
        obtain ⟨q, h1, h2, h3⟩ := hpi.1 h
        rw [hbyte q h2] at h3
        exact h3 (hrest.1 hpad q (by omega) (by omega))
      refine (text_ok a n cap zs w L P ha hl hw (by omega) (by omega) hcap hL hP hbef h0 hpad).mono ?_
      rintro e w' ⟨rfl, hb⟩
      refine ⟨?_, hb⟩
      rw [textI, if_neg h, if_neg hp, hN, show (4 * L + P) / 4 = L by omega]
    · have hp : padBad (joinL zs) = true := by
        apply Classical.byContradiction
        intro hno
        apply hpad
        apply hrest.2
        intro q hq1 hq2
        by_cases e : q = P
        · subst e; rw [← hbyte q hq2]; exact h0
        · apply Classical.byContradiction
          intro hne
          exact hno (hpi.2 ⟨q, by omega, hq2, by rw [hbyte q hq2]; exact hne⟩)
      refine (text_pad a n cap zs w L P ha hl hw (by omega) hL hP hbef h0 hpad).mono ?_
      rintro e w' ⟨rfl, rfl⟩
      refine ⟨?_, Below.refl _ _⟩
      rw [textI, if_neg h, if_pos hp]

end Go.Proofs.YtmobologlaeefaaGreat

/-
  What slices.Clone of words returns: the words in new memory; nothing that was there has turned.
-/
namespace Go.Proofs.YtmobologlaeefaaGreat
open Go.RowKit
set_option maxRecDepth 10000

theorem Clone.info : (Tryz.prog.info? 22).map (fun i => (i.zero, i.size, i.bytes)) = some (some (.int .u32 0), 1, 4) := by kernel_rfl

theorem clone_nil (w : World) :
    Calls Tryz.prog 78 #[.slice none 0 0] w fun e w' => e = .returned (.slice none 0 0) ∧ w = w' := by
  have hn := fun w => Lib.run_eql_slice_nil (P := Tryz.prog) w 85 22 none 0 0 0 0 Tryz.underlying85
  go_enter Tryz.func78, Tryz.ntmps78
  go_wp2
  go_ret
  exact ⟨rfl, rfl⟩

set_option maxHeartbeats 400000 in
theorem clone_some (x : Addr) (n cap : Nat) (zs : List Int) (w : World) (hv : View .u32 w (some x) zs) (hl : zs.length = n) (hn : 4 * n ≤ 140737488351232) :
    Calls Tryz.prog 78 #[.slice (some x) n cap] w fun e w' => ∃ g cx, e = .returned (.slice (some ⟨g, 0, none⟩) n cx) ∧
      w'.ownsRow w.heap.size 22 1 (.slice (some ⟨g, 0, none⟩) n cx) n (zs.map (Value.int .u32)) ∧ Below w.heap.size w w' := by
  obtain ⟨i0, hi, hz0, hz1, hz2⟩ := info_parts Clone.info
  have hnn := fun w => Lib.run_eql_slice_nil (P := Tryz.prog) w 85 22 (some x) n cap 0 0 Tryz.underlying85
  simp only [Option.isNone_some] at hnn
  have hbs : ∀ w, (Instr.buildSlice 85 0 #[]).run Tryz.prog w = .ok (.slice (some ⟨w.heap.size, 0, none⟩) 0 0) (w.alloc (.cells #[] 22)) := fun w => by kernel_rfl
  have hown0 : (w.alloc (.cells #[] 22)).ownsRow w.heap.size 22 1 (.slice (some ⟨w.heap.size, 0, none⟩) 0 0) 0 [] := World.ownsRow_lit w #[] 0 (Nat.le_refl _) (by unfold maxLen; omega) rfl
  have hnews : ∀ j u, (zs.map (Value.int .u32))[j]? = some u → (w.alloc (.cells #[] 22)).cell? (x.add j) = some u := by
    intro j u hj
    rw [List.getElem?_map] at hj
    have hjl : j < zs.length := by
      rcases Nat.lt_or_ge j zs.length with h | h
      · exact h
      · rw [List.getElem?_eq_none h] at hj; simp at hj
    obtain ⟨b, off, e, hb, hc⟩ := hv j hjl
    simp at e
    subst e
    rw [Addr.add_lit, World.cell?_alloc_past _ _ _ hb, hc, ← hj, List.getElem?_eq_getElem hjl]
    simp [nth, List.getD, hjl]
  have HL : Hid (zs.length = n) := hl
  clear hl hv
  go_enter Tryz.func78, Tryz.ntmps78
  go_wp2_with (at_builtin; refine wpList_append_own _ rfl (.tmp 5) (.tmp 6) 85 rfl w.heap.size 22 i0 (.int .u32 0) 1 4 Tryz.underlying85 hi hz0 hz1 hz2 rfl (by decide) _ _ _ rfl hown0 x n cap (zs.map (Value.int .u32)) rfl (by rw [List.length_map, HL.out]; omega) hnews (ints_oneCell .u32 zs) (by unfold maxLen; omega) (by omega) (by simp) ?_)
  intro v' w1 hown1 hgrow1 hnil1
  have hb1 : Below w.heap.size w w1 := ((Below.refl _ w).alloc (Nat.le_refl _) _).grown hgrow1 (by simp) (fun k hk => by simp [Value.ownBlock] at hk; omega)
  have hex : ∃ g cx, v' = .slice (some ⟨g, 0, none⟩) n cx := by
    rcases hown1.2 with ⟨h1, _⟩ | ⟨g, cx, cur, h1, _⟩
    · exact absurd h1 hnil1
    · exact ⟨g, cx, h1⟩
  obtain ⟨g, cx, hv'⟩ := hex
  rw [hv'] at hown1 ⊢
  clear hnil1 hgrow1 hnews hown0
  go_wp2
  go_ret
  exact ⟨g, cx, rfl, hown1, hb1⟩

end Go.Proofs.YtmobologlaeefaaGreat

/-
  What Byte of the document's answer returns: the k-th byte of words, for every k of theirs.
-/
namespace Go.Proofs.YtmobologlaeefaaGreat
open Go.RowKit
set_option maxRecDepth 10000

set_option maxHeartbeats 400000 in
theorem refByte_nat (a : Option Addr) (n cap : Nat) (zs : List Int) (w : World) (k : Nat) (ha : View .u32 w a zs) (hl : zs.length = n) (hw : Within 4294967296 zs) (hn : 4 * n ≤ 140737488351232) (hk : k < 4 * n) :
    Calls Tryz.prog 132 #[.slice a n cap, .int .i64 k] w fun e w' => e = .returned (.int .u8 (nth (joinL zs) k)) ∧ w = w' := by
  have HJ : Hid (nth (joinL zs) k = byt (nth zs (k / 4)) (k % 4)) := joinL_getD zs k (by omega)
  obtain ⟨b, off, rfl, _, c⟩ := ha (k / 4) (by omega)
  have hx := hw.at (k := k / 4) (by omega)
  obtain ⟨X, hX⟩ : ∃ X, X = nth zs (k / 4) := ⟨_, rfl⟩
  rw [← hX] at c hx
  have HX : Hid (X = nth zs (k / 4)) := hX
  have hx0 := hx.1
  have hx1 := hx.2
  clear ha hw hX hx hl
  have i0 : (0 : Int) ≤ (k : Int) / 4 := by omega
  have i1 : (k : Int) / 4 < (n : Int) := by omega
  have ei : ((k : Int) / 4).toNat = k / 4 := by omega
  go_enter Tryz.func132, Tryz.ntmps132
  go_wp2
  go_loop [5, 6] (fun x i => ∃ j : Nat, j ≤ k % 4 ∧ i = .int .i64 j ∧ x = .int .u32 (X / 256 ^ j)) (fun _ i => 4 - (intOf i).toNat)
  case atStart => exact ⟨0, Nat.zero_le _, rfl, by simp⟩
  case round =>
    obtain ⟨j, hj, rfl, rfl⟩ := hrel
    have y0 := div_pow_lo X j hx0
    have y1 := div_pow_hi X j _ hx0 hx1
    have HS : Hid (X / 256 ^ j / 256 = X / 256 ^ (j + 1)) := div_pow_succ X j
    have HB : Hid (byt X j = X / 256 ^ j % 256) := rfl
    generalize X / 256 ^ j = y at y0 y1 HS HB
    by_cases hlt : j < k % 4
    · have hlt' : (j : Int) < (k : Int) % 4 := by omega
      go_wp2
      go_round
      case rel => exact ⟨j + 1, by omega, by go_num, by rw [HS.out]⟩
      case measure => simp [intOf]; omega
    · have hlt' : (k : Int) % 4 ≤ (j : Int) := by omega
      go_wp2
      go_ret
      obtain rfl : j = k % 4 := by omega
      exact ⟨ret_int (by rw [HJ.out, ← HX.out, HB.out]), rfl⟩

end Go.Proofs.YtmobologlaeefaaGreat

/-
  What Text of the document's answer returns, for every list of words: its error, or the text at their front and how many words it takes.
-/
namespace Go.Proofs.YtmobologlaeefaaGreat
open Go.RowKit

theorem RefText.info : (Tryz.prog.info? 5).map (fun i => (i.zero, i.size, i.bytes)) = some (some (.int .u8 0), 1, 1) := by kernel_rfl

set_option maxHeartbeats 1000000 in
theorem refText_none (a : Option Addr) (n cap : Nat) (zs : List Int) (w : World) (ha : View .u32 w a zs) (hl : zs.length = n) (hw : Within 4294967296 zs) (hn : 4 * n ≤ 140737488351232) (h : ∀ i, i < 4 * n → nth (joinL zs) i ≠ 0) :
    Calls Tryz.prog 107 #[.slice a n cap] w fun e w' => e = .returned (.tuple #[.string ⟨#[]⟩, .int .i64 0, .int .i64 11]) ∧ w = w' := by
  have HB : ∀ k : Nat, k < 4 * n → Calls Tryz.prog 132 #[.slice a n cap, .int .i64 k] w fun e w' => e = .returned (.int .u8 (nth (joinL zs) k)) ∧ w = w' :=
    fun k hk => refByte_nat a n cap zs w k ha hl hw hn hk
  generalize joinL zs = js at HB h
  have H0 : Hid (∀ i, i < 4 * n → nth js i ≠ 0) := h
  clear ha hl hw h
  go_enter Tryz.func107, Tryz.ntmps107
  go_wp2
  go_loop [5] (fun i => ∃ k : Nat, k ≤ 4 * n ∧ i = .int .i64 k) (fun i => 4 * n - (intOf i).toNat)
  case atStart => exact ⟨0, Nat.zero_le _, rfl⟩
  case round =>
    obtain ⟨k, hk, rfl⟩ := hrel
    by_cases hlt : k < 4 * n
    · have hcall := HB k hlt
      have hne : (nth js k == 0) = false := by simp; exact H0.out k hlt
      generalize nth js k = x at hcall hne
      have hki : (k : Int) < 4 * (n : Int) := by omega
      clear HB
      go_wp2_with (go_at_call 132; refine hcall.mono ?_; rintro e w' ⟨rfl, rfl⟩)
      go_round
      case rel => exact ⟨k + 1, by omega, by go_num⟩
      case measure => simp [intOf]; omega
    · obtain rfl : k = 4 * n := by omega
      have hki : ¬ (4 * (n : Int)) < 4 * (n : Int) := by omega
      have hke : ((4 * (n : Int)) == 4 * (n : Int)) = true := by simp
      go_wp2
      go_ret3
      exact ⟨rfl, rfl⟩

set_option maxHeartbeats 1000000 in
theorem refText_pad (a : Option Addr) (n cap : Nat) (zs : List Int) (w : World) (L P M : Nat) (ha : View .u32 w a zs) (hl : zs.length = n) (hw : Within 4294967296 zs) (hn : 4 * n ≤ 140737488351232)
    (hL : L < n) (hP : P < 4) (h : ∀ i, i < 4 * L + P → nth (joinL zs) i ≠ 0) (h0 : nth (joinL zs) (4 * L + P) = 0) (hM1 : 4 * L + P < M) (hM2 : M < 4 * L + 4) (hM : nth (joinL zs) M ≠ 0) :
    Calls Tryz.prog 107 #[.slice a n cap] w fun e w' => e = .returned (.tuple #[.string ⟨#[]⟩, .int .i64 0, .int .i64 12]) ∧ w = w' := by
  have HB : ∀ k : Nat, k < 4 * n → Calls Tryz.prog 132 #[.slice a n cap, .int .i64 k] w fun e w' => e = .returned (.int .u8 (nth (joinL zs) k)) ∧ w = w' :=
    fun k hk => refByte_nat a n cap zs w k ha hl hw hn hk
  generalize joinL zs = js at HB h h0 hM
  have HN : Hid (∀ i, i < 4 * L + P → nth js i ≠ 0) := h
  have H0 : Hid (nth js (4 * L + P) = 0) := h0
  have HM : Hid (nth js M ≠ 0) := hM
  clear ha hl hw h h0 hM
  go_enter Tryz.func107, Tryz.ntmps107
  go_wp2
  go_loop [5] (fun i => ∃ k : Nat, k ≤ 4 * L + P ∧ i = .int .i64 k) (fun i => 4 * n - (intOf i).toNat)
  case atStart => exact ⟨0, Nat.zero_le _, rfl⟩
  case round =>
    obtain ⟨k, hk, rfl⟩ := hrel
    have hki : (k : Int) < 4 * (n : Int) := by omega
    have hcall := HB k (by omega)
    by_cases hlt : k < 4 * L + P
    · have hne : (nth js k == 0) = false := by simp; exact HN.out k hlt
      generalize nth js k = x at hcall hne
      clear HB
      go_wp2_with (go_at_call 132; refine hcall.mono ?_; rintro e w' ⟨rfl, rfl⟩)
      go_round
      case rel => exact ⟨k + 1, by omega, by go_num⟩
      case measure => simp [intOf]; omega
    · have ek : k = 4 * L + P := by omega
      rw [show nth js k = 0 by rw [ek]; exact H0.out] at hcall
      have hke : ((k : Int) == 4 * (n : Int)) = false := by simp; omega
      have EK : Hid (k = 4 * L + P) := ek
      clear ek
      go_wp2_with (go_at_call 132; refine hcall.mono ?_; rintro e w' ⟨rfl, rfl⟩)
      go_loop [6] (fun i => ∃ j : Nat, 4 * L + P < j ∧ j ≤ M ∧ i = .int .i64 j) (fun i => 4 * n - (intOf i).toNat)
      case atStart => exact ⟨k + 1, by have := EK.out; omega, by have := EK.out; omega, by go_num⟩
      case round =>
        obtain ⟨j, hj1, hj2, rfl⟩ := hrel
        have hjc := HB j (by omega)
        have hjm : (((j : Int) % 4) == 0) = false := by simp; omega
        clear hcall
        by_cases hx : nth js j = 0
        · rw [hx] at hjc
          have hjM : j ≠ M := fun e => HM.out (by rw [← e]; exact hx)
          go_wp2_with (go_at_call 132; refine hjc.mono ?_; rintro e w' ⟨rfl, rfl⟩)
          go_round
          case rel => exact ⟨j + 1, by omega, by omega, by go_num⟩
          case measure => simp [intOf]; omega
        · have hne : (nth js j == 0) = false := by simp; exact hx
          generalize nth js j = x at hjc hne
          clear hx HB
          go_wp2_with (go_at_call 132; refine hjc.mono ?_; rintro e w' ⟨rfl, rfl⟩)
          go_ret3
          exact ⟨rfl, rfl⟩

set_option maxRecDepth 10000 in
set_option maxHeartbeats 1000000 in
theorem refText_ok (a : Option Addr) (n cap : Nat) (zs : List Int) (w : World) (L P : Nat) (ha : View .u32 w a zs) (hl : zs.length = n) (hw : Within 4294967296 zs) (hn : 4 * n ≤ 140737488351232)
    (hL : L < n) (hP : P < 4) (h : ∀ i, i < 4 * L + P → nth (joinL zs) i ≠ 0) (h0 : nth (joinL zs) (4 * L + P) = 0) (hM : ∀ i, 4 * L + P < i → i < 4 * L + 4 → nth (joinL zs) i = 0) :
    Calls Tryz.prog 107 #[.slice a n cap] w fun e w' => e = .returned (.tuple #[.string (strOfNums ((joinL zs).take (4 * L + P))), .int .i64 ((L : Int) + 1), .int .i64 0]) ∧ Below w.heap.size w w' := by
  obtain ⟨i0, hi, hz0, hz1, hz2⟩ := info_parts RefText.info
  have HB : ∀ wx, Below w.heap.size w wx → ∀ k : Nat, k < 4 * n → Calls Tryz.prog 132 #[.slice a n cap, .int .i64 k] wx fun e w' => e = .returned (.int .u8 (nth (joinL zs) k)) ∧ wx = w' :=
    fun wx hx k hk => refByte_nat a n cap zs wx k (ha.below hx) hl hw hn hk
  have HJL : Hid ((joinL zs).length = 4 * n) := by rw [joinL_len, hl]; rfl
  generalize joinL zs = js at HB h h0 hM HJL ⊢
  have HN : Hid (∀ i, i < 4 * L + P → nth js i ≠ 0) := h
  have H0 : Hid (nth js (4 * L + P) = 0) := h0
  have HM : Hid (∀ i, 4 * L + P < i → i < 4 * L + 4 → nth js i = 0) := hM
  clear ha hl hw h h0 hM
  go_enter Tryz.func107, Tryz.ntmps107
  go_wp2
  go_loop [5] (fun i => ∃ k : Nat, k ≤ 4 * L + P ∧ i = .int .i64 k) (fun i => 4 * n - (intOf i).toNat)
  case atStart => exact ⟨0, Nat.zero_le _, rfl⟩
  case round =>
    obtain ⟨k, hk, rfl⟩ := hrel
    have hki : (k : Int) < 4 * (n : Int) := by omega
    have hcall := HB w (Below.refl _ _) k (by omega)
    by_cases hlt : k < 4 * L + P
    · have hne : (nth js k == 0) = false := by simp; exact HN.out k hlt
      generalize nth js k = x at hcall hne
      clear HB
      go_wp2_with (go_at_call 132; refine hcall.mono ?_; rintro e w' ⟨rfl, rfl⟩)
      go_round
      case rel => exact ⟨k + 1, by omega, by go_num⟩
      case measure => simp [intOf]; omega
    · have ek : k = 4 * L + P := by omega
      rw [show nth js k = 0 by rw [ek]; exact H0.out] at hcall
      have hke : ((k : Int) == 4 * (n : Int)) = false := by simp; omega
      have EK : Hid (k = 4 * L + P) := ek
      clear ek
      go_wp2_with (go_at_call 132; refine hcall.mono ?_; rintro e w' ⟨rfl, rfl⟩)
      go_loop [6] (fun i => ∃ j : Nat, 4 * L + P < j ∧ j ≤ 4 * L + 4 ∧ i = .int .i64 j) (fun i => 4 * n + 4 - (intOf i).toNat)
      case atStart => exact ⟨k + 1, by have := EK.out; omega, by have := EK.out; omega, by go_num⟩
      case round =>
        obtain ⟨j, hj1, hj2, rfl⟩ := hrel
        clear hcall
        by_cases hjl : j < 4 * L + 4
        · have hjc := HB w (Below.refl _ _) j (by omega)
          have hjm : (((j : Int) % 4) == 0) = false := by simp; omega
          rw [HM.out j hj1 hjl] at hjc
          go_wp2_with (go_at_call 132; refine hjc.mono ?_; rintro e w' ⟨rfl, rfl⟩)
          go_round
          case rel => exact ⟨j + 1, by omega, by omega, by go_num⟩
          case measure => simp [intOf]; omega
        · have hjm : (((j : Int) % 4) == 0) = true := by simp; omega
          go_wp2_with (at_make; refine wpList_make_full _ rfl _ _ 43 rfl w.heap.size 5 i0 (.int .u8 0) 1 Tryz.underlying43 hi hz0 hz1 _ _ _ _ k rfl rfl (by omega) (by omega) (by rw [hz2]; omega) (by unfold maxLen; omega) (Nat.le_refl _) ?_)
          intro w1 hown1 hgrow1
          have hb1 : Below w.heap.size w w1 := (Below.refl _ w).grown hgrow1 (Nat.le_refl _) (by simp)
          have hr1 := made_row (js.take k) hown1
          clear hown1 hgrow1
          have HTL : Hid ((js.take k).length = k) := by show (js.take k).length = k; rw [List.length_take, HJL.out]; omega
          go_wp2
          go_loopw [8] (fun i wr => ∃ t : Nat, t ≤ k ∧ i = .int .i64 t ∧ wr.ownsRow w.heap.size 5 1 (.slice (some ⟨w.heap.size, 0, none⟩) k k) k ((filled (js.take k) t k).map (Value.int .u8)) ∧ Below w.heap.size w wr)
            (fun i _ => k - (intOf i).toNat)
          case atStart => exact ⟨0, Nat.zero_le _, rfl, hr1, hb1⟩
          case round =>
            obtain ⟨t, ht, rfl, hown, hnx⟩ := hrel
            clear hr1 hb1
            by_cases htl : t < k
            · obtain ⟨d1, d2, d3⟩ := fill_step hown htl (by rw [HTL.out]; exact htl)
              have htc := HB wr hnx t (by omega)
              rw [nth_take _ _ _ htl] at d3
              generalize nth js t = x at htc d3
              clear hown HB
              go_wp2_with (go_at_call 132; refine htc.mono ?_; rintro e w' ⟨rfl, rfl⟩)
              go_roundw
              case rel => exact ⟨t + 1, by omega, by go_num, d3, hnx.setCell (Nat.le_refl _) _⟩
              case measure => simp [intOf]; omega
            · obtain rfl : t = k := by omega
              rw [filled_whole _ _ HTL.out] at hown
              have hcv : (convert 43 9 (.slice (some ⟨w.heap.size, 0, none⟩) t t)).run Tryz.prog wr = .ok (.string (strOfNums (js.take t))) wr := by
                refine run_convert_bytes_arg wr _ _ Tryz.underlying43 Tryz.underlying5 w.heap.size 0 t t (js.take t) HTL.out (fun i hi => ?_) _ Tryz.underlying9
                obtain ⟨b', off', e, _, hcell⟩ := View.ofRow hown HTL.out i (by rw [HTL.out]; exact hi)
                simp at e
                obtain ⟨rfl, rfl⟩ := e
                exact hcell
              have hdiv : (t : Int) / 4 = (L : Int) := by have := EK.out; omega
              clear hown HB
              go_wp2
              go_ret3
              exact ⟨by rw [← EK.out]; rfl, hnx⟩

end Go.Proofs.YtmobologlaeefaaGreat

/-
  Text of the words package and of the document's answer are the same, whatever the words.
-/
namespace Go.Proofs.YtmobologlaeefaaGreat
open Go.RowKit
set_option maxRecDepth 10000

/-- The two answers are the same, whatever the words: a text, how many words, an error; nothing that was there has turned. -/
theorem texts_same (n : Nat) (zs : List Int) (hl : zs.length = n) (hw : Within 4294967296 zs) (hn : 4 * n ≤ 140737488351232) :
    ∃ (s : ByteArray) (k er : Int), s.size ≤ 4 * n ∧ 0 ≤ k ∧ k ≤ n ∧ (er ≠ 0 → s = ⟨#[]⟩ ∧ k = 0) ∧ (∀ a ca w, View .u32 w a zs → Calls Tryz.prog 107 #[.slice a n ca] w fun e w' => e = .returned (.tuple #[.string s, .int .i64 k, .int .i64 er]) ∧ Below w.heap.size w w') ∧
      ∀ b cb w2, n ≤ cb → View .u32 w2 b zs → Calls Tryz.prog 186 #[.slice b n cb] w2 fun e w' => e = .returned (.tuple #[.string s, .int .i64 k, .int .i64 er]) ∧ Below w2.heap.size w2 w' := by
  obtain ⟨N, hN, h1, h2⟩ := first_zero (joinL zs) (4 * n)
  have hlen : (joinL zs).length = 4 * n := by rw [joinL_len, hl]
  by_cases hlt : N < 4 * n
  · obtain ⟨L, P, hP, rfl⟩ : ∃ L P, P < 4 ∧ N = 4 * L + P := ⟨N / 4, N % 4, by omega, by omega⟩
    have h0 := h2 hlt
    have hL : L < n := by omega
    have hx := hw.at (k := L) (by omega)
    have hrest := rest_zero (nth zs L) P hP hx.1 hx.2
    have hbyte : ∀ q, q < 4 → nth (joinL zs) (4 * L + q) = byt (nth zs L) q := fun q hq => by
      rw [joinL_getD _ _ (by rw [hl]; omega), show (4 * L + q) / 4 = L by omega, show (4 * L + q) % 4 = q by omega]
    by_cases hpad : nth zs L / 256 ^ P = 0
    · refine ⟨strOfNums ((joinL zs).take (4 * L + P)), (L : Int) + 1, 0, ?_, by omega, by omega, by simp, fun a ca w ha => ?_, fun b cb w2 hcb hv2 => ?_⟩
      · rw [strOfNums_size, List.length_take]; omega
      · exact refText_ok a n ca zs w L P ha hl hw hn hL hP h1 h0 (fun i hi1 hi2 => by
          obtain ⟨q, rfl⟩ : ∃ q, i = 4 * L + q := ⟨i - 4 * L, by omega⟩
          rw [hbyte q (by omega)]
          exact hrest.1 hpad q (by omega) (by omega))
      · exact text_ok b n cb zs w2 L P hv2 hl hw (by omega) (by omega) hcb hL hP h1 h0 hpad
    · refine ⟨⟨#[]⟩, 0, 12, by simp [ByteArray.size], by omega, by omega, fun _ => ⟨rfl, rfl⟩, fun a ca w ha => ?_, fun b cb w2 _ hv2 => ?_⟩
      · have : ∃ q, P < q ∧ q < 4 ∧ byt (nth zs L) q ≠ 0 := by
          apply Classical.byContradiction
          intro hno
          apply hpad
          apply hrest.2
          intro q hq1 hq2
          by_cases e : q = P
          · subst e; rw [← hbyte q hq2]; exact h0
          · apply Classical.byContradiction
            intro hne
            exact hno ⟨q, by omega, hq2, hne⟩
        obtain ⟨q, hq1, hq2, hq3⟩ := this
        exact (refText_pad a n ca zs w L P (4 * L + q) ha hl hw hn hL hP h1 h0 (by omega) (by omega) (by rw [hbyte q hq2]; exact hq3)).mono fun e w' he => ⟨he.1, he.2 ▸ Below.refl _ _⟩
      · exact (text_pad b n cb zs w2 L P hv2 hl hw (by omega) hL hP h1 h0 hpad).mono fun e w' he => ⟨he.1, he.2 ▸ Below.refl _ _⟩
  · refine ⟨⟨#[]⟩, 0, 11, by simp [ByteArray.size], by omega, by omega, fun _ => ⟨rfl, rfl⟩, fun a ca w ha => ?_, fun b cb w2 _ hv2 => ?_⟩
    · exact (refText_none a n ca zs w ha hl hw hn (fun i hi => h1 i (by omega))).mono fun e w' he => ⟨he.1, he.2 ▸ Below.refl _ _⟩
    · exact (text_none b n cb zs w2 hv2 hl hw (by omega) (fun i hi => h1 i (by omega))).mono fun e w' he => ⟨he.1, he.2 ▸ Below.refl _ _⟩

end Go.Proofs.YtmobologlaeefaaGreat

/-
  What a reader's calls At, Left and take do: what they answer, and where the reader stands then.
-/
namespace Go.Proofs.YtmobologlaeefaaGreat
open Go.RowKit
set_option maxRecDepth 10000

/-- A reader of the words zs, of which p were taken. -/
structure Rdr (W0 w : World) (gr ga n cw p : Nat) (zs : List Int) : Prop where
  rd : Rd 191 W0 w gr (.slice (some ⟨ga, 0, none⟩) n cw) p
  view : View .u32 W0 (some ⟨ga, 0, none⟩) zs
  apart : ga ≠ gr
  len : zs.length = n
  le : p ≤ n
  room : n ≤ cw
  small : 4 * n ≤ 140737488351232
  within : Within 4294967296 zs

theorem Rdr.words {W0 w : World} {gr ga n cw p : Nat} {zs : List Int} (h : Rdr W0 w gr ga n cw p zs) : View .u32 w (some ⟨ga, 0, none⟩) zs :=
  h.rd.view h.view (fun b off s e => by simp at e; have := h.apart; omega)

theorem Rdr.below {W0 w w' : World} {gr ga n cw p : Nat} {zs : List Int} (h : Rdr W0 w gr ga n cw p zs) (hb : Below w.heap.size w w') : Rdr W0 w' gr ga n cw p zs :=
  ⟨h.rd.below hb, h.view, h.apart, h.len, h.le, h.room, h.small, h.within⟩

theorem Rdr.set {W0 w : World} {gr ga n cw p : Nat} {zs : List Int} (h : Rdr W0 w gr ga n cw p zs) (q : Nat) (u : Int) (hu : u = (q : Int)) (hq : q ≤ n) : Rdr W0 (w.setCell ⟨gr, 1, none⟩ (.int .i64 u)) gr ga n cw q zs :=
  ⟨h.rd.set q u hu, h.view, h.apart, h.len, hq, h.room, h.small, h.within⟩

theorem Rdr.drew {W0 w : World} {gr ga n cw p : Nat} {zs : List Int} (h : Rdr W0 w gr ga n cw p zs) (q : Nat) : Rdr W0 (w.drewN q) gr ga n cw p zs := h.below (bel_drewN (Below.refl _ _) q)

theorem left_any {W0 w : World} {gr ga n cw p : Nat} {zs : List Int} (h : Rdr W0 w gr ga n cw p zs) :
    Calls Tryz.prog 142 #[.pointer (some ⟨gr, 0, none⟩)] w fun e w' => e = .returned (.int .i64 ((n : Int) - p)) ∧ ∃ q, w' = w.drewN q := by
  obtain ⟨c0, c1, f1⟩ := cell_of_two h.rd.box
  have hle := h.le
  have hsm := h.small
  clear h
  go_enter Tryz.func142, Tryz.ntmps142
  go_wp2
  go_quiet (fail)
  go_wp2
  go_ret
  exact ⟨rfl, _, rfl⟩

set_option maxHeartbeats 1000000 in
/-- A word is taken. -/
theorem take_word {W0 w : World} {gr ga n cw p : Nat} {zs : List Int} (m : Int) (h : Rdr W0 w gr ga n cw p zs) (hp : p < n) :
    Calls Tryz.prog 162 #[.pointer (some ⟨gr, 0, none⟩), .int .i64 0, .int .i64 m] w fun e w' => ∃ c, e = .returned (.tuple #[.slice (some ⟨ga, p, none⟩) 1 c, .string ⟨#[]⟩, .int .i64 0]) ∧ Rdr W0 w' gr ga n cw (p + 1) zs := by
  obtain ⟨c0, c1, f1⟩ := cell_of_two h.rd.box
  have hle := h.le
  have hsm := h.small
  have hrm := h.room
  have hne : ¬ cw = p := by omega
  have hp1 : (1 : Int) ≤ (n : Int) - (p : Int) := by omega
  have hp2 : ¬ ((n : Int) - (p : Int) < 1) := by omega
  have hcap : (1 : Int) ≤ ((cw - p : Nat) : Int) := by omega
  have hpn : (p : Int) ≤ (n : Int) := by omega
  have H : Hid (Rdr W0 w gr ga n cw p zs) := h
  clear h
  go_enter Tryz.func162, Tryz.ntmps162
  go_wp2
  go_quiet (fail)
  go_wp2
  go_ret3
  exact ⟨_, rfl, (H.out.drew _).set (p + 1) _ (by omega) hp⟩

set_option maxHeartbeats 1000000 in
/-- No word is left. -/
theorem take_end {W0 w : World} {gr ga n cw : Nat} {zs : List Int} (m : Int) (h : Rdr W0 w gr ga n cw n zs) :
    Calls Tryz.prog 162 #[.pointer (some ⟨gr, 0, none⟩), .int .i64 0, .int .i64 m] w fun e w' => e = .returned (.tuple #[.slice none 0 0, .string ⟨#[]⟩, .int .i64 14]) ∧ ∃ q, w' = w.drewN q := by
  obtain ⟨c0, c1, f1⟩ := cell_of_two h.rd.box
  have hsm := h.small
  have hrm := h.room
  obtain ⟨sa, hsa⟩ : ∃ sa, (if cw = n then some (⟨ga, 0, none⟩ : Addr) else some ⟨ga, n, none⟩) = sa := ⟨_, rfl⟩
  have hnn : n - n = 0 := Nat.sub_self n
  clear h
  go_enter Tryz.func162, Tryz.ntmps162
  go_wp2
  go_quiet (fail)
  go_wp2
  go_ret3
  exact ⟨rfl, _, rfl⟩

set_option maxHeartbeats 1000000 in
/-- Fewer than none are asked for. -/
theorem take_neg {W0 w : World} {gr ga n cw p : Nat} {zs : List Int} (m : Int) (h : Rdr W0 w gr ga n cw p zs) (hm : m < 0) :
    Calls Tryz.prog 162 #[.pointer (some ⟨gr, 0, none⟩), .int .i64 2, .int .i64 m] w fun e w' => e = .returned (.tuple #[.slice none 0 0, .string ⟨#[]⟩, .int .i64 2]) ∧ ∃ q, w' = w.drewN q := by
  obtain ⟨c0, c1, f1⟩ := cell_of_two h.rd.box
  have hle := h.le
  have hsm := h.small
  have hrm := h.room
  obtain ⟨sa, hsa⟩ : ∃ sa, (if cw = p then some (⟨ga, 0, none⟩ : Addr) else some ⟨ga, p, none⟩) = sa := ⟨_, rfl⟩
  have hpn : (p : Int) ≤ (n : Int) := by omega
  clear h
  go_enter Tryz.func162, Tryz.ntmps162
  go_wp2
  go_quiet (fail)
  go_wp2
  go_ret3
  exact ⟨rfl, _, rfl⟩

set_option maxHeartbeats 1000000 in
/-- More than are left are asked for. -/
theorem take_over {W0 w : World} {gr ga n cw p : Nat} {zs : List Int} (m : Int) (h : Rdr W0 w gr ga n cw p zs) (hm : (n : Int) - p < m) :
    Calls Tryz.prog 162 #[.pointer (some ⟨gr, 0, none⟩), .int .i64 2, .int .i64 m] w fun e w' => e = .returned (.tuple #[.slice none 0 0, .string ⟨#[]⟩, .int .i64 14]) ∧ ∃ q, w' = w.drewN q := by
  obtain ⟨c0, c1, f1⟩ := cell_of_two h.rd.box
  have hle := h.le
  have hsm := h.small
  have hrm := h.room
  obtain ⟨sa, hsa⟩ : ∃ sa, (if cw = p then some (⟨ga, 0, none⟩ : Addr) else some ⟨ga, p, none⟩) = sa := ⟨_, rfl⟩
  have hpn : (p : Int) ≤ (n : Int) := by omega
  have hm' : ((n - p : Nat) : Int) < m := by omega
  have hm0 : ¬ m < 0 := by omega
  clear h
  go_enter Tryz.func162, Tryz.ntmps162
  go_wp2
  go_quiet (fail)
  go_wp2
  go_ret3
  exact ⟨rfl, _, rfl⟩

set_option maxHeartbeats 1000000 in
/-- So many are taken. -/
theorem take_some {W0 w : World} {gr ga n cw p m : Nat} {zs : List Int} (h : Rdr W0 w gr ga n cw p zs) (hm : p + m ≤ n) :
    Calls Tryz.prog 162 #[.pointer (some ⟨gr, 0, none⟩), .int .i64 2, .int .i64 m] w fun e w' => ∃ sa c, e = .returned (.tuple #[.slice (some sa) m c, .string ⟨#[]⟩, .int .i64 0]) ∧ View .u32 w' (some sa) ((zs.drop p).take m) ∧ Rdr W0 w' gr ga n cw (p + m) zs ∧ w.grownBy w' (some gr) := by
  obtain ⟨c0, c1, f1⟩ := cell_of_two h.rd.box
  have hle := h.le
  have hsm := h.small
  have hrm := h.room
  have HLZ : Hid (zs.length = n) := h.len
  obtain ⟨sa, hsa, hsav⟩ : ∃ sa, (if cw = p then some (⟨ga, 0, none⟩ : Addr) else some ⟨ga, p, none⟩) = some sa ∧ Hid (∀ wx, View .u32 wx (some ⟨ga, 0, none⟩) zs → View .u32 wx (some sa) (zs.drop p)) := by
    by_cases e : cw = p
    · refine ⟨⟨ga, 0, none⟩, by rw [if_pos e], fun wx _ => ?_⟩
      rw [List.drop_of_length_le (by rw [HLZ.out]; omega)]
      exact view_nil
    · refine ⟨⟨ga, p, none⟩, by rw [if_neg e], fun wx hv => ?_⟩
      have := View.drop hv p
      rw [Nat.zero_add] at this
      exact this
  have hpn : (p : Int) ≤ (n : Int) := by omega
  have hm' : ¬ ((n - p : Nat) : Int) < (m : Int) := by omega
  have hm0 : ¬ (m : Int) < 0 := by omega
  have hmc : (m : Int) ≤ ((cw - p : Nat) : Int) := by omega
  have H : Hid (Rdr W0 w gr ga n cw p zs) := h
  clear h
  go_enter Tryz.func162, Tryz.ntmps162
  go_wp2
  go_quiet (fail)
  go_wp2
  go_ret3
  have hR := (H.out.drew nq).set (p + m) ((p : Int) + (m : Int)) (by omega) hm
  exact ⟨sa, _, rfl, (hsav.out _ hR.words).take m, hR, (show w.grownBy (w.drewN nq) (some gr) from ⟨rfl, rfl, rfl, Nat.le_refl _, fun _ _ _ => rfl⟩).trans (grown_setCell (w.drewN nq) gr 1 _)⟩

end Go.Proofs.YtmobologlaeefaaGreat

/-
  What a reader's calls Word, Text and Take answer, and where the reader stands then.
-/
namespace Go.Proofs.YtmobologlaeefaaGreat
open Go.RowKit
set_option maxRecDepth 10000

set_option maxHeartbeats 1000000 in
/-- A text is asked for, and there is an error. -/
theorem take_text_no {W0 w : World} {gr ga n cw p : Nat} {zs : List Int} (m : Int) (h : Rdr W0 w gr ga n cw p zs) (s : ByteArray) (k er : Int) (her : er ≠ 0)
    (hT : ∀ b cb w2, n - p ≤ cb → View .u32 w2 b (zs.drop p) → Calls Tryz.prog 186 #[.slice b (n - p : Nat) cb] w2 fun e w' => e = .returned (.tuple #[.string s, .int .i64 k, .int .i64 er]) ∧ Below w2.heap.size w2 w') :
    Calls Tryz.prog 162 #[.pointer (some ⟨gr, 0, none⟩), .int .i64 1, .int .i64 m] w fun e w' => e = .returned (.tuple #[.slice none 0 0, .string ⟨#[]⟩, .int .i64 er]) ∧ Below w.heap.size w w' := by
  obtain ⟨c0, c1, f1⟩ := cell_of_two h.rd.box
  have hle := h.le
  have hsm := h.small
  have hrm := h.room
  have HLZ : Hid (zs.length = n) := h.len
  obtain ⟨sa, hsa, hsav⟩ : ∃ sa, (if cw = p then some (⟨ga, 0, none⟩ : Addr) else some ⟨ga, p, none⟩) = some sa ∧ Hid (∀ wx, View .u32 wx (some ⟨ga, 0, none⟩) zs → View .u32 wx (some sa) (zs.drop p)) := by
    by_cases e : cw = p
    · refine ⟨⟨ga, 0, none⟩, by rw [if_pos e], fun wx _ => ?_⟩
      rw [List.drop_of_length_le (by rw [HLZ.out]; omega)]
      exact view_nil
    · refine ⟨⟨ga, p, none⟩, by rw [if_neg e], fun wx hv => ?_⟩
      have := View.drop hv p
      rw [Nat.zero_add] at this
      exact this
  have hpn : (p : Int) ≤ (n : Int) := by omega
  have he : (er == 0) = false := by simpa using her
  have H : Hid (Rdr W0 w gr ga n cw p zs) := h
  clear h her
  go_enter Tryz.func162, Tryz.ntmps162
  go_wp2
  go_quiet (fail)
  go_wp2_with fail
  refine (hT (some sa) (cw - p) (w.drewN nq) (by omega) (hsav.out _ (H.out.drew nq).words)).mono ?_
  rintro e w1 ⟨rfl, hb1⟩
  go_wp2
  go_ret3
  exact ⟨rfl, (bel_drewN (Below.refl _ w) nq).trans hb1⟩

set_option maxHeartbeats 1000000 in
/-- A text is taken. -/
theorem take_text_yes {W0 w : World} {gr ga n cw p : Nat} {zs : List Int} (m : Int) (h : Rdr W0 w gr ga n cw p zs) (s : ByteArray) (k : Nat) (hk : p + k ≤ n)
    (hT : ∀ b cb w2, n - p ≤ cb → View .u32 w2 b (zs.drop p) → Calls Tryz.prog 186 #[.slice b (n - p : Nat) cb] w2 fun e w' => e = .returned (.tuple #[.string s, .int .i64 k, .int .i64 0]) ∧ Below w2.heap.size w2 w') :
    Calls Tryz.prog 162 #[.pointer (some ⟨gr, 0, none⟩), .int .i64 1, .int .i64 m] w fun e w' => ∃ v, e = .returned (.tuple #[v, .string s, .int .i64 0]) ∧ Rdr W0 w' gr ga n cw (p + k) zs ∧ w.grownBy w' (some gr) := by
  obtain ⟨c0, c1, f1⟩ := cell_of_two h.rd.box
  have hle := h.le
  have hsm := h.small
  have hrm := h.room
  have HLZ : Hid (zs.length = n) := h.len
  obtain ⟨sa, hsa, hsav⟩ : ∃ sa, (if cw = p then some (⟨ga, 0, none⟩ : Addr) else some ⟨ga, p, none⟩) = some sa ∧ Hid (∀ wx, View .u32 wx (some ⟨ga, 0, none⟩) zs → View .u32 wx (some sa) (zs.drop p)) := by
    by_cases e : cw = p
    · refine ⟨⟨ga, 0, none⟩, by rw [if_pos e], fun wx _ => ?_⟩
      rw [List.drop_of_length_le (by rw [HLZ.out]; omega)]
      exact view_nil
    · refine ⟨⟨ga, p, none⟩, by rw [if_neg e], fun wx hv => ?_⟩
      have := View.drop hv p
      rw [Nat.zero_add] at this
      exact this
  have hpn : (p : Int) ≤ (n : Int) := by omega
  have hm' : ¬ ((n - p : Nat) : Int) < (k : Int) := by omega
  have hmc : (k : Int) ≤ ((cw - p : Nat) : Int) := by omega
  have H : Hid (Rdr W0 w gr ga n cw p zs) := h
  clear h
  go_enter Tryz.func162, Tryz.ntmps162
  go_wp2
  go_quiet (fail)
  go_wp2_with fail
  refine (hT (some sa) (cw - p) (w.drewN nq) (by omega) (hsav.out _ (H.out.drew nq).words)).mono ?_
  rintro e w1 ⟨rfl, hb1⟩
  have HR1 : Hid (Rdr W0 w1 gr ga n cw p zs) := (H.out.drew nq).below hb1
  obtain ⟨d0, d1, g1⟩ := cell_of_two HR1.out.rd.box
  have HB : Hid (Below w.heap.size w w1) := (bel_drewN (Below.refl _ w) nq).trans hb1
  clear hb1 hT
  go_wp2
  go_ret3
  refine ⟨_, rfl, HR1.out.set (p + k) _ (by omega) hk, ?_⟩
  have hb := HB.out
  exact World.grownBy.trans ⟨hb.os, hb.tape, hb.output, hb.size, fun i hi _ => hb.block i hi⟩ (grown_setCell w1 gr 1 _)

/-- Word, where one is left. -/
theorem word_some {W0 w : World} {gr ga n cw p : Nat} {zs : List Int} (h : Rdr W0 w gr ga n cw p zs) (hp : p < n) :
    Calls Tryz.prog 140 #[.pointer (some ⟨gr, 0, none⟩)] w fun e w' => e = .returned (.tuple #[.int .u32 (nth zs p), .int .i64 0]) ∧ Rdr W0 w' gr ga n cw (p + 1) zs := by
  have hT := take_word (m := 0) h hp
  have hlen := h.len
  clear h
  go_enter Tryz.func140, Tryz.ntmps140
  go_wp2_with fail
  refine hT.mono ?_
  rintro e w1 ⟨c, rfl, hR⟩
  obtain ⟨b, off, e1, _, hc⟩ := hR.words p (by rw [hlen]; exact hp)
  simp at e1
  obtain ⟨rfl, rfl⟩ := e1
  rw [Nat.zero_add] at hc
  clear hlen
  go_wp2
  go_ret2
  exact ⟨rfl, hR⟩

/-- Word, where none is left. -/
theorem word_none {W0 w : World} {gr ga n cw : Nat} {zs : List Int} (h : Rdr W0 w gr ga n cw n zs) :
    Calls Tryz.prog 140 #[.pointer (some ⟨gr, 0, none⟩)] w fun e w' => e = .returned (.tuple #[.int .u32 0, .int .i64 14]) ∧ Rdr W0 w' gr ga n cw n zs := by
  have hT := take_end (m := 0) h
  go_enter Tryz.func140, Tryz.ntmps140
  go_wp2_with fail
  refine hT.mono ?_
  rintro e w1 ⟨rfl, q, rfl⟩
  go_wp2
  go_ret2
  exact ⟨rfl, h.drew q⟩

/-- Text. -/
theorem rtext_any {W0 w : World} {gr ga n cw p : Nat} {zs : List Int} (h : Rdr W0 w gr ga n cw p zs) (s : ByteArray) (k er : Int) (hk0 : 0 ≤ k) (hk : k ≤ (n - p : Nat)) (hz : er ≠ 0 → s = ⟨#[]⟩ ∧ k = 0)
    (hT : ∀ b cb w2, n - p ≤ cb → View .u32 w2 b (zs.drop p) → Calls Tryz.prog 186 #[.slice b (n - p : Nat) cb] w2 fun e w' => e = .returned (.tuple #[.string s, .int .i64 k, .int .i64 er]) ∧ Below w2.heap.size w2 w') :
    Calls Tryz.prog 163 #[.pointer (some ⟨gr, 0, none⟩)] w fun e w' => e = .returned (.tuple #[.string s, .int .i64 er]) ∧ Rdr W0 w' gr ga n cw (p + k.toNat) zs := by
  have hle := h.le
  by_cases her : er = 0
  · subst her
    obtain ⟨kk, rfl⟩ := Int.eq_ofNat_of_zero_le hk0
    have hA := take_text_yes (m := 0) h s kk (by omega) hT
    rw [Int.toNat_natCast]
    clear hz hT h
    go_enter Tryz.func163, Tryz.ntmps163
    go_wp2_with fail
    refine hA.mono ?_
    rintro e w1 ⟨v, rfl, hR, _⟩
    go_wp2
    go_ret2
    exact ⟨rfl, hR⟩
  · obtain ⟨rfl, rfl⟩ := hz her
    have hA := take_text_no (m := 0) h ⟨#[]⟩ 0 er her hT
    have H : Hid (Rdr W0 w gr ga n cw p zs) := h
    clear hz hT h her
    go_enter Tryz.func163, Tryz.ntmps163
    go_wp2_with fail
    refine hA.mono ?_
    rintro e w1 ⟨rfl, hb⟩
    go_wp2
    go_ret2
    exact ⟨rfl, H.out.below hb⟩

end Go.Proofs.YtmobologlaeefaaGreat
