/-
  Texts laid together in one: WordsOfText, CodePut, MathI, CodeWinst.
-/
import Derived.WalkSpells
import Derived.BigRegion
import Derived.Deep.RegionWith
import Derived.Deep.DrawnRows
import Derived.Test.YtpggcpnjcalfaaaB04
import Derived.Test.YtpggcpnjcalfaaaB07
import Derived.WalkMore
import Derived.Test.YtpggcpnjcalfaaaB01
import Derived.Test.YtpggcpnjcalfaaaB06
import Derived.Deep.RegionHeld2
/-
  What OfText of the words package returns, for every string: its error, or its words in new memory; nothing that was there has turned.
-/
namespace Go.Proofs.Ytpggcpnjcalfaaa
open Go.RowKit

theorem OfText.info : (Try.prog.info? 26).map (fun i => (i.zero, i.size, i.bytes)) = some (some (.int .u32 0), 1, 4) := by kernel_rfl

theorem ofText_nul (s : ByteArray) (w : World) (k : Nat) (hk : k < s.size) (h : nth (strI s) k = 0) :
    Calls Try.prog 104 #[.string s] w fun e w' => e = .returned (.tuple #[.slice none 0 0, .int .i64 13]) ∧ w = w' := by
  have hi := index_some s k hk h
  have hI := indexByte_any s w
  generalize Lib.indexByte s.data.toList (0 : Int).toNat.toUInt8 = r at hi hI
  clear h hk
  go_enter Try.func104, Try.ntmps104
  go_wp2_with fail
  refine hI.mono ?_
  rintro e w' ⟨rfl, rfl⟩
  go_wp2
  go_ret2
  exact ⟨rfl, rfl⟩

theorem ofText_large (s : ByteArray) (w : World) (hs : s.size ≤ 140737488351232) (h : NoNul s) (hl : 65535 < s.size / 4 + 1) :
    Calls Try.prog 104 #[.string s] w fun e w' => e = .returned (.tuple #[.slice none 0 0, .int .i64 4]) ∧ w = w' := by
  have hI := indexByte_any s w
  rw [index_none s h] at hI
  have hl' : (65535 : Int) < (s.size : Int) / 4 + 1 := by omega
  clear h
  go_enter Try.func104, Try.ntmps104
  go_wp2_with fail
  refine hI.mono ?_
  rintro e w' ⟨rfl, rfl⟩
  go_wp2
  go_ret2
  exact ⟨rfl, rfl⟩

theorem room_any (s : ByteArray) (w : World) (hs : s.size ≤ 140737488351232) :
    Calls Try.prog 105 #[.string s] w fun e w' => e = .returned (.int .i64 ((s.size / 4 + 1 : Nat) : Int)) ∧ w = w' := by
  go_enter Try.func105, Try.ntmps105
  go_wp2
  go_ret
  exact ⟨ret_int (by omega), rfl⟩

set_option maxRecDepth 10000 in
set_option maxHeartbeats 1000000 in
theorem ofText_ok (s : ByteArray) (w : World) (h : NoNul s) (hl : s.size / 4 + 1 ≤ 65535) :
    Calls Try.prog 104 #[.string s] w fun e w' => e = .returned (.tuple #[.slice (some ⟨w.heap.size, 0, none⟩) (s.size / 4 + 1) (s.size / 4 + 1), .int .i64 0]) ∧
      w'.ownsRow w.heap.size 26 1 (.slice (some ⟨w.heap.size, 0, none⟩) (s.size / 4 + 1) (s.size / 4 + 1)) (s.size / 4 + 1) ((textW s).map (Value.int .u32)) ∧ Below w.heap.size w w' := by
  obtain ⟨i0, hi, hz0, hz1, hz2⟩ := info_parts OfText.info
  have hI := indexByte_any s w
  rw [index_none s h] at hI
  have hR := fun wx => room_any s wx (by omega)
  have HT : Hid (partL (padI s) s.size (s.size / 4 + 1) = textW s) := partL_padI s
  clear h
  obtain ⟨m, hm⟩ : ∃ m, m = s.size / 4 + 1 := ⟨_, rfl⟩
  rw [← hm] at HT hR ⊢
  have HM : Hid (m = s.size / 4 + 1) := hm
  have hsz : s.size < 4 * m := by omega
  have hm2 : m ≤ 65535 := by omega
  have hl' : ¬ (65535 : Int) < (m : Int) := by omega
  clear hm hl
  go_enter Try.func104, Try.ntmps104
  go_wp2_with fail
  refine hI.mono ?_
  rintro e w' ⟨rfl, rfl⟩
  go_wp2_with (first | (go_at_call 105; refine (hR _).mono ?_; rintro e w' ⟨rfl, rfl⟩) | (at_make; refine wpList_make_full _ rfl _ _ 23 rfl w.heap.size 26 i0 (.int .u32 0) 1 Try.underlying23 hi hz0 hz1 _ _ _ _ m rfl rfl (by omega) (by omega) (by rw [hz2]; omega) (by unfold maxLen; omega) (Nat.le_refl _) ?_))
  intro w1 hown1 hgrow1
  have hb1 : Below w.heap.size w w1 := (Below.refl _ w).grown hgrow1 (Nat.le_refl _) (by simp)
  have hr1 := made_row (padI s) hown1
  rw [← partL_zero (padI s) (padI s)] at hr1
  clear hown1 hgrow1
  go_wp2
  go_loopw [17] (fun i wr => ∃ k : Nat, k ≤ s.size ∧ i = .int .i64 k ∧ wr.ownsRow w.heap.size 26 1 (.slice (some ⟨w.heap.size, 0, none⟩) m m) m ((partL (padI s) k m).map (Value.int .u32)) ∧ Below w.heap.size w wr)
    (fun i _ => s.size - (intOf i).toNat)
  case atStart => exact ⟨0, Nat.zero_le _, rfl, hr1, hb1⟩
  case round =>
    obtain ⟨k, hk, rfl, hown, hnx⟩ := hrel
    clear hr1 hb1
    by_cases hlt : k < s.size
    · have hpb := partW_bounds (padI s) k (k / 4) (padI_within s) (by rw [padI_len]; omega)
      have HP : Hid (bits .or .u32 (partW (padI s) k (k / 4)) (plc (s[k].toNat : Int) (k % 4)) = partW (padI s) (k + 1) (k / 4)) := by
        have := partW_step (padI s) k (padI_within s) (by rw [padI_len]; omega)
        rw [padI_lo s k hlt, nth_strI s k hlt] at this
        exact this
      have hd : wr.cell? ⟨w.heap.size, k / 4, none⟩ = some (.int .u32 (partW (padI s) k (k / 4))) := by
        rw [hown.cellAt (k / 4) (by omega)]
        have : k / 4 < m := by omega
        simp [partL, this]
      have hf : wr.frozen? ⟨w.heap.size, k / 4, none⟩ = false := hown.frozenAt _
      have hs := (hown.stored (k / 4) (.int .u32 (partW (padI s) (k + 1) (k / 4)))).1
      rw [← List.map_set, partL_set] at hs
      have hx1 : (s[k].toNat : Int) < 256 := by have := s[k].toNat_lt; omega
      generalize partW (padI s) k (k / 4) = y at hpb hd HP
      have hy0 := hpb.1
      have hy1 := hpb.2
      have eq : (k : Int).tdiv 4 = ((k / 4 : Nat) : Int) := by rw [Int.tdiv_eq_ediv_of_nonneg (by omega)]; omega
      have em : (k : Int).tmod 4 = ((k % 4 : Nat) : Int) := by rw [Int.tmod_eq_emod_of_nonneg (by omega)]; omega
      have eq' : (k : Int) / 4 = ((k / 4 : Nat) : Int) := by omega
      have em' : (k : Int) % 4 = ((k % 4 : Nat) : Int) := by omega
      have hj : k / 4 < m := by omega
      have hr : k % 4 < 4 := by omega
      have HS : Hid ((wr.setCell ⟨w.heap.size, k / 4, none⟩ (.int .u32 (bits .or .u32 y (plc (s[k].toNat : Int) (k % 4))))).ownsRow w.heap.size 26 1 (.slice (some ⟨w.heap.size, 0, none⟩) m m) m ((partL (padI s) (k + 1) m).map (Value.int .u32))) := by rw [HP.out]; exact hs
      clear hpb hown hs HP hl' hI hR
      generalize k / 4 = j at *
      generalize k % 4 = r at *
      have hA := fun wx => atPlace_any (s[k].toNat : Int) (r : Int) wx (by omega) hx1 (by omega) (by omega)
      have hj0 : (0 : Int) ≤ (j : Int) := by omega
      have hj1 : (j : Int) < (m : Int) := by omega
      have hk0 : (0 : Int) ≤ (k : Int) := by omega
      have hk1 : (k : Int) < (s.size : Int) := by omega
      have hwj : IntKind.i64.wrap (j : Int) = (j : Int) := by rw [IntKind.wrap_i64]; omega
      go_wp2
      go_region_with (go_at_call 51; refine (hA _).mono ?_; rintro e w' ⟨rfl, rfl⟩)
      all_goals
        go_wp2
        go_roundw
        case rel => exact ⟨k + 1, by omega, by go_num, HS.out.drew, (hnx.setCell (Nat.le_refl _) _).drew⟩
        case measure => simp [intOf]; omega
    · go_wp2
      go_ret2
      obtain rfl : k = s.size := by omega
      rw [HT.out] at hown
      exact ⟨rfl, hown, hnx⟩

end Go.Proofs.Ytpggcpnjcalfaaa

/-
  What the methods of the package code's writer do that put one argument: a word, a text; and whether an argument may stand.
-/
namespace Go.Proofs.Ytpggcpnjcalfaaa
open Go.RowKit
set_option linter.unusedVariables false
set_option linter.unusedSimpArgs false
set_option maxRecDepth 10000

theorem view_one {w : World} (n : Int) : View .u32 (w.alloc (.cells #[.int .u32 n] 26)) (some ⟨w.heap.size, 0, none⟩) [n] := by
  intro j hj
  obtain rfl : j = 0 := by simpa using hj
  refine ⟨w.heap.size, 0, rfl, by simp, ?_⟩
  rw [Nat.zero_add, World.cell?_alloc_new]
  rfl

theorem Wrt.bound {w : World} {B : Nat} {o : Int} {f : Frm} {b : Int} {zs : List Int} {c : Int} (h : Wrt w B o f b zs c) : w.cell? ⟨B, 8, none⟩ = some (.int .u32 b) ∧ w.cell? ⟨B, 0, none⟩ = some (.int .u16 o) := by
  obtain ⟨⟨v, h1, h2⟩, h3⟩ := h
  obtain ⟨hc, _⟩ := one_block h1
  exact ⟨hc 8, hc 0⟩

set_option maxHeartbeats 1000000 in
theorem putWord_any (B : Nat) (o : Int) (f : Frm) (b : Int) (zs : List Int) (cn : Int) (c : Int) (x : ArgT) (w : World) (hW : Wrt w B o f b zs cn) (hc : cn + 1 < 9223372036854775808) :
    Calls Try.prog 95 #[.pointer (some ⟨B, 0, none⟩), .int .u8 c, argV x] w fun e w' => e = .returned (.int .i64 (faultW c x.2.1 b)) ∧ KeepW B w w' ∧ (faultW c x.2.1 b = 0 → Wrt w' B o f b (putL cn 1 zs [x.2.1]) (cn + 1)) ∧ (faultW c x.2.1 b ≠ 0 → Wrt w' B o f b zs cn) := by
  obtain ⟨kd, n, st⟩ := x
  unfold argV
  simp only
  have hBl := hW.lt
  have hW1 := hW.below ((Below.refl _ w).alloc (Nat.le_refl _) (.cells #[.int .u8 kd, .int .u32 n, .string st] 65))
  have hb1 : Below w.heap.size w (w.alloc (.cells #[.int .u8 kd, .int .u32 n, .string st] 65)) := (Below.refl _ w).alloc (Nat.le_refl _) _
  have hl1 : w.heap.size < (w.alloc (.cells #[.int .u8 kd, .int .u32 n, .string st] 65)).heap.size := by simp
  have hN : (w.alloc (.cells #[.int .u8 kd, .int .u32 n, .string st] 65)).cell? ⟨w.heap.size, 1, none⟩ = some (.int .u32 n) := (one_block (alloc_new w #[.int .u8 kd, .int .u32 n, .string st] 65)).1 1
  obtain ⟨r, hr⟩ : ∃ r, r = faultW c n b := ⟨_, rfl⟩
  by_cases h0 : faultW c n b = 0
  · rw [h0]
    go_enter Try.func95, Try.ntmps95
    go_wp2_with fail
    generalize w.alloc (.cells #[.int .u8 kd, .int .u32 n, .string st] 65) = W at *
    have a1 := fun s : InC (Below W.heap.size W) => s.cell (p := ⟨w.heap.size, 1, none⟩) hl1 hN
    have hF := fun s : InC (Below W.heap.size W) => Calls.inC s (faultW_any B c n b s.w (by have := s.ok.size; omega) (s.cell (p := ⟨B, 8, none⟩) (by show B < _; omega) hW1.bound.1))
    rw [h0] at hF
    refine wp_region_class (C := Below W.heap.size W) (by kernel_rfl) (by kernel_rfl) (below_drew W) ?_
    have hne : Nonempty (InC (Below W.heap.size W)) := ⟨⟨W, Below.refl _ _⟩⟩
    repeat (go_big_quiet_step ((go_at_call 83; exact hF _)))
    refine wpQuiet_nil ?_
    rintro _ ⟨s, rfl⟩
    have a2 := a1 s
    have hW2 := hW1.below s.ok
    have hbs := hb1.trans (s.ok.mono (by omega))
    have hss := hbs.size
    obtain ⟨s, hs⟩ := s
    simp only at *
    have hW3 := hW2.below ((Below.refl _ s).alloc (Nat.le_refl _) (.cells #[.int .u32 n] 26))
    have hA := add_any B o f b zs cn 1 (some ⟨s.heap.size, 0, none⟩) 1 1 [n] _ hW3 (view_one n) (newAt_mk (by omega)) rfl (by omega) hc
    have hK := KeepW.of_below (hbs.trans (((Below.refl _ s).alloc (Nat.le_refl _) (.cells #[.int .u32 n] 26)).mono hss)) (show B ≤ w.heap.size by omega)
    clear hne hF a1 hN hW1 hW2 hW3 hs
    go_wp2_with fail
    refine hA.mono ?_
    rintro e w4 ⟨rfl, hk4, hW4⟩
    clear hA a2
    go_wp2
    go_ret
    exact ⟨rfl, hK.trans hk4, fun _ => hW4, fun h => absurd rfl h⟩
  · have hr0 : ¬ r = 0 := by rw [hr]; exact h0
    rw [← hr]
    go_enter Try.func95, Try.ntmps95
    go_wp2_with fail
    generalize w.alloc (.cells #[.int .u8 kd, .int .u32 n, .string st] 65) = W at *
    have a1 := fun s : InC (Below W.heap.size W) => s.cell (p := ⟨w.heap.size, 1, none⟩) hl1 hN
    have hF := fun s : InC (Below W.heap.size W) => Calls.inC s (faultW_any B c n b s.w (by have := s.ok.size; omega) (s.cell (p := ⟨B, 8, none⟩) (by show B < _; omega) hW1.bound.1))
    rw [← hr] at hF
    have HR : Hid (r = faultW c n b) := hr
    clear hr h0
    refine wp_region_class (C := Below W.heap.size W) (by kernel_rfl) (by kernel_rfl) (below_drew W) ?_
    have hne : Nonempty (InC (Below W.heap.size W)) := ⟨⟨W, Below.refl _ _⟩⟩
    repeat (go_big_quiet_step ((go_at_call 83; exact hF _)))
    refine wpQuiet_nil ?_
    rintro _ ⟨s, rfl⟩
    have hbs := hb1.trans (s.ok.mono (by omega))
    have hW2 := hW1.below s.ok
    clear hne hF a1 hN
    go_wp2
    go_ret
    exact ⟨rfl, KeepW.of_below hbs (by omega), fun h => absurd h hr0, fun _ => hW2⟩

theorem putText_nul (B : Nat) (o : Int) (f : Frm) (b : Int) (zs : List Int) (cn : Int) (c : Int) (x : ArgT) (w : World) (hW : Wrt w B o f b zs cn) (k : Nat) (hk : k < x.2.2.size) (h : nth (strI x.2.2) k = 0) :
    Calls Try.prog 96 #[.pointer (some ⟨B, 0, none⟩), .int .u8 c, argV x] w fun e w' => e = .returned (.int .i64 13) ∧ KeepW B w w' := by
  obtain ⟨kd, n, st⟩ := x
  unfold argV
  simp only at *
  have hO := fun w => ofText_nul st w k hk h
  have hBl := hW.lt
  clear h
  go_enter Try.func96, Try.ntmps96
  go_wp2_with fail
  refine (hO _).mono ?_
  rintro e w1 ⟨rfl, rfl⟩
  go_wp2
  go_ret
  exact ⟨rfl, KeepW.of_below ((Below.refl _ w).alloc (Nat.le_refl _) _) (by omega)⟩

theorem putText_ok (B : Nat) (o : Int) (f : Frm) (b : Int) (zs : List Int) (cn : Int) (c : Int) (x : ArgT) (w : World) (hW : Wrt w B o f b zs cn) (h : NoNul x.2.2) (hs : x.2.2.size ≤ 140737488351232) (hc : cn + ((x.2.2.size / 4 + 1 : Nat) : Int) < 9223372036854775808) :
    Calls Try.prog 96 #[.pointer (some ⟨B, 0, none⟩), .int .u8 c, argV x] w fun e w' => e = .returned (.int .i64 0) ∧ KeepW B w w' ∧ Wrt w' B o f b (putL cn ((x.2.2.size / 4 + 1 : Nat) : Int) zs (textW x.2.2)) (cn + ((x.2.2.size / 4 + 1 : Nat) : Int)) := by
  obtain ⟨kd, n, st⟩ := x
  unfold argV
  simp only at *
  have hBl := hW.lt
  have hlen := hW.len
  have hRm := fun w => room_any st w hs
  have hW1 := hW.below ((Below.refl _ w).alloc (Nat.le_refl _) (.cells #[.int .u8 kd, .int .u32 n, .string st] 65))
  have hb1 : Below w.heap.size w (w.alloc (.cells #[.int .u8 kd, .int .u32 n, .string st] 65)) := (Below.refl _ w).alloc (Nat.le_refl _) _
  have hl1 : w.heap.size < (w.alloc (.cells #[.int .u8 kd, .int .u32 n, .string st] 65)).heap.size := by simp
  have hS := fun i => (one_block (alloc_new w #[.int .u8 kd, .int .u32 n, .string st] 65)).1 i
  by_cases hl : st.size / 4 + 1 ≤ 65535
  · have hO := fun w => ofText_ok st w h hl
    have hT := textW_len st
    clear h
    obtain ⟨m, hm⟩ : ∃ m, m = st.size / 4 + 1 := ⟨_, rfl⟩
    rw [← hm] at hT hl hc ⊢
    simp only [← hm] at hO hRm
    have HM : Hid (m = st.size / 4 + 1) := hm
    clear hm
    obtain ⟨zs', hz⟩ : ∃ z, z = putL cn (m : Int) zs (textW st) := ⟨_, rfl⟩
    rw [← hz]
    go_enter Try.func96, Try.ntmps96
    go_wp2_with fail
    generalize w.alloc (.cells #[.int .u8 kd, .int .u32 n, .string st] 65) = W at *
    refine (hO _).mono ?_
    rintro e w2 ⟨rfl, hown2, hb2⟩
    have hS2 : w2.cell? ⟨w.heap.size, 2, none⟩ = some (.string st) := (hb2.cell (p := ⟨w.heap.size, 2, none⟩) hl1).trans (hS 2)
    have hW2 := hW1.below hb2
    have hA := add_any B o f b zs cn (m : Int) (some ⟨W.heap.size, 0, none⟩) m m (textW st) w2 hW2 (View.ofRow hown2 hT) (newAt_mk (by omega)) hT (Int.le_refl _) hc
    rw [← hz] at hA
    have hK := KeepW.of_below (hb1.trans (hb2.mono (by omega))) (show B ≤ w.heap.size by omega)
    clear hown2 hb2 hW1 hW2 hS hO hT hb1 hz
    go_wp2_with fail
    refine (hRm _).mono ?_
    rintro e w3 ⟨rfl, rfl⟩
    go_wp2_with fail
    refine hA.mono ?_
    rintro e w4 ⟨rfl, hk4, hW4⟩
    clear hA
    go_wp2
    go_ret
    exact ⟨rfl, hK.trans hk4, hW4⟩
  · have hO := fun w => ofText_large st w hs h (by omega)
    have e1 : putL cn ((st.size / 4 + 1 : Nat) : Int) zs (textW st) = putL cn ((st.size / 4 + 1 : Nat) : Int) zs [] := by
      rw [putL, putL, if_neg (by omega), if_neg (by omega)]
    rw [e1]
    clear h e1
    obtain ⟨m, hm⟩ : ∃ m, m = st.size / 4 + 1 := ⟨_, rfl⟩
    rw [← hm] at hl hc ⊢
    simp only [← hm] at hRm
    have HM : Hid (m = st.size / 4 + 1) := hm
    clear hm
    obtain ⟨zs', hz⟩ : ∃ z, z = putL cn (m : Int) zs [] := ⟨_, rfl⟩
    rw [← hz]
    go_enter Try.func96, Try.ntmps96
    go_wp2_with fail
    generalize w.alloc (.cells #[.int .u8 kd, .int .u32 n, .string st] 65) = W at *
    refine (hO _).mono ?_
    rintro e w2 ⟨rfl, rfl⟩
    have hS2 : W.cell? ⟨w.heap.size, 2, none⟩ = some (.string st) := hS 2
    have hA := add_any B o f b zs cn (m : Int) none 0 0 [] W hW1 view_nil (fun _ _ _ e => by cases e) rfl (by omega) hc
    rw [← hz] at hA
    have hK := KeepW.of_below hb1 (show B ≤ w.heap.size by omega)
    clear hS hO hW1 hb1 hz
    go_wp2_with fail
    refine (hRm _).mono ?_
    rintro e w3 ⟨rfl, rfl⟩
    go_wp2_with fail
    refine hA.mono ?_
    rintro e w4 ⟨rfl, hk4, hW4⟩
    clear hA
    go_wp2
    go_ret
    exact ⟨rfl, hK.trans hk4, hW4⟩

theorem empty_size (s : ByteArray) : s.toList.isEmpty = (s.size == 0) := by
  rw [ByteArray.toList_eq, Bool.eq_iff_iff, List.isEmpty_iff, ← List.length_eq_zero_iff, Array.length_toList, beq_iff_eq]
  rfl

/-- Whether an argument may stand where a letter is. -/
def mayStandB (c : Int) (x : ArgT) : Bool := !(c == 0) && (x.1 == kindI c) && (if x.1 = 3 then x.2.1 == 0 else x.2.2.size == 0)

theorem mayStand_any (c : Int) (x : ArgT) (w : World) :
    Calls Try.prog 88 #[.int .u8 c, argV x] w fun e w' => e = .returned (.bool (mayStandB c x)) ∧ Below w.heap.size w w' := by
  obtain ⟨kd, n, st⟩ := x
  unfold argV
  have hb1 : Below w.heap.size w (w.alloc (.cells #[.int .u8 kd, .int .u32 n, .string st] 65)) := (Below.refl _ w).alloc (Nat.le_refl _) _
  have hl1 : w.heap.size < (w.alloc (.cells #[.int .u8 kd, .int .u32 n, .string st] 65)).heap.size := by simp
  have hS := fun i => (one_block (alloc_new w #[.int .u8 kd, .int .u32 n, .string st] 65)).1 i
  have hS0 := hS 0
  have hS1 := hS 1
  have hS2 := hS 2
  change _ = some (Value.int .u8 kd) at hS0
  change _ = some (Value.int .u32 n) at hS1
  change _ = some (Value.string st) at hS2
  clear hS
  by_cases h0 : c = 0
  · subst h0
    have e1 : mayStandB 0 (kd, n, st) = false := by simp [mayStandB]
    rw [e1]
    go_enter Try.func88, Try.ntmps88
    go_wp2_with fail
    generalize w.alloc (.cells #[.int .u8 kd, .int .u32 n, .string st] 65) = W at *
    refine wp_region_class (C := Below W.heap.size W) (by kernel_rfl) (by kernel_rfl) (below_drew W) ?_
    have hne : Nonempty (InC (Below W.heap.size W)) := ⟨⟨W, Below.refl _ _⟩⟩
    repeat (go_big_quiet_step (fail))
    refine wpQuiet_nil ?_
    rintro _ ⟨s, rfl⟩
    have hfin := hb1.trans (s.ok.mono (by omega))
    clear hne
    go_wp2
    go_ret
    exact ⟨rfl, hfin⟩
  · have h0' : (c == 0) = false := by simpa using h0
    by_cases h1 : kd = kindI c
    · have e1 : mayStandB c (kd, n, st) = (if kd = 3 then n == 0 else st.size == 0) := by simp [mayStandB, h0', h1]
      rw [e1]
      have hKc := fun w => kind_any c w
      rw [← h1] at hKc
      clear h1 e1
      by_cases k3 : kd = 3
      · subst k3
        rw [if_pos rfl]
        go_enter Try.func88, Try.ntmps88
        go_wp2_with fail
        generalize w.alloc (.cells #[.int .u8 3, .int .u32 n, .string st] 65) = W at *
        have a0 := fun s : InC (Below W.heap.size W) => s.cell (p := ⟨w.heap.size, 0, none⟩) hl1 hS0
        have hK := fun s : InC (Below W.heap.size W) => Calls.inC_same s (hKc s.w)
        refine wp_region_class (C := Below W.heap.size W) (by kernel_rfl) (by kernel_rfl) (below_drew W) ?_
        have hne : Nonempty (InC (Below W.heap.size W)) := ⟨⟨W, Below.refl _ _⟩⟩
        repeat (go_big_quiet_step ((go_at_call 81; exact hK _)))
        refine wpQuiet_nil ?_
        rintro _ ⟨s, rfl⟩
        have hfin := hb1.trans (s.ok.mono (by omega))
        have k0 := s.cell (p := ⟨w.heap.size, 0, none⟩) hl1 hS0
        have k1 := s.cell (p := ⟨w.heap.size, 1, none⟩) hl1 hS1
        have k2 := s.cell (p := ⟨w.heap.size, 2, none⟩) hl1 hS2
        clear hne hK a0 hS0 hS1 hS2 hKc
        go_wp2
        go_ret
        exact ⟨rfl, hfin⟩
      · rw [if_neg k3]
        go_enter Try.func88, Try.ntmps88
        go_wp2_with fail
        generalize w.alloc (.cells #[.int .u8 kd, .int .u32 n, .string st] 65) = W at *
        have a0 := fun s : InC (Below W.heap.size W) => s.cell (p := ⟨w.heap.size, 0, none⟩) hl1 hS0
        have hK := fun s : InC (Below W.heap.size W) => Calls.inC_same s (hKc s.w)
        refine wp_region_class (C := Below W.heap.size W) (by kernel_rfl) (by kernel_rfl) (below_drew W) ?_
        have hne : Nonempty (InC (Below W.heap.size W)) := ⟨⟨W, Below.refl _ _⟩⟩
        repeat (go_big_quiet_step ((go_at_call 81; exact hK _)))
        refine wpQuiet_nil ?_
        rintro _ ⟨s, rfl⟩
        have hfin := hb1.trans (s.ok.mono (by omega))
        have k0 := s.cell (p := ⟨w.heap.size, 0, none⟩) hl1 hS0
        have k1 := s.cell (p := ⟨w.heap.size, 1, none⟩) hl1 hS1
        have k2 := s.cell (p := ⟨w.heap.size, 2, none⟩) hl1 hS2
        clear hne hK a0 hS0 hS1 hS2 hKc
        go_wp2
        go_ret
        refine ⟨?_, hfin⟩
        show Ending.returned (Value.bool st.toList.isEmpty) = _
        rw [empty_size]
    · have e1 : mayStandB c (kd, n, st) = false := by simp [mayStandB, h0', h1]
      rw [e1]
      have h1' : (kd == kindI c) = false := by simpa using h1
      go_enter Try.func88, Try.ntmps88
      go_wp2_with fail
      generalize w.alloc (.cells #[.int .u8 kd, .int .u32 n, .string st] 65) = W at *
      have a0 := fun s : InC (Below W.heap.size W) => s.cell (p := ⟨w.heap.size, 0, none⟩) hl1 hS0
      have hK := fun s : InC (Below W.heap.size W) => Calls.inC_same s (kind_any c s.w)
      generalize kindI c = kc at *
      refine wp_region_class (C := Below W.heap.size W) (by kernel_rfl) (by kernel_rfl) (below_drew W) ?_
      have hne : Nonempty (InC (Below W.heap.size W)) := ⟨⟨W, Below.refl _ _⟩⟩
      repeat (go_big_quiet_step ((go_at_call 81; exact hK _)))
      refine wpQuiet_nil ?_
      rintro _ ⟨s, rfl⟩
      have hfin := hb1.trans (s.ok.mono (by omega))
      clear hne hK a0
      go_wp2
      go_ret
      exact ⟨rfl, hfin⟩

theorem putter_any (B : Nat) (k : Int) (w : World) :
    Calls Try.prog 89 #[.pointer (some ⟨B, 0, none⟩), .int .u8 k] w fun e w' => e = .returned (if k = 3 then .func (.func 96) #[.pointer (some ⟨B, 0, none⟩)] #[] else .func (.func 95) #[.pointer (some ⟨B, 0, none⟩)] #[]) ∧ w = w' := by
  by_cases h : k = 3
  · subst h
    rw [if_pos rfl]
    go_enter Try.func89, Try.ntmps89
    go_wp2
    go_ret
    exact ⟨rfl, rfl⟩
  · rw [if_neg h]
    go_enter Try.func89, Try.ntmps89
    go_wp2
    go_ret
    exact ⟨rfl, rfl⟩

end Go.Proofs.Ytpggcpnjcalfaaa

/-
  Plain facts on instructions as words: what is wrong with an instruction, and its words.
-/
namespace Go.Proofs.Ytpggcpnjcalfaaa
open Go.RowKit
set_option linter.unusedVariables false
set_option linter.unusedSimpArgs false

/-- Is a byte of a text zero? -/
def nulS (s : ByteArray) : Bool := s.data.toList.any (· == 0)
theorem nulS_false {s : ByteArray} : nulS s = false ↔ NoNul s := by
  unfold nulS NoNul
  rw [List.any_eq_false]
  constructor
  · intro h k hk
    rw [nth_strI s k hk]
    intro e
    have h1 : s[k].toNat = 0 := by omega
    have h2 : s.data.toList[k]'(by rw [size_list]; exact hk) = 0 := UInt8.toNat_inj.1 h1
    exact h _ (List.getElem_mem (by rw [size_list]; exact hk)) (by simp [h2])
  · intro h x hx hx0
    obtain ⟨k, hk, rfl⟩ := List.mem_iff_getElem.1 hx
    have hk' : k < s.size := by rw [← size_list]; exact hk
    apply h k hk'
    rw [nth_strI s k hk']
    have e : s[k] = s.data.toList[k] := rfl
    rw [e, eq_of_beq hx0]
    rfl
theorem nulS_true {s : ByteArray} (h : nulS s = true) : ∃ k, k < s.size ∧ nth (strI s) k = 0 := by
  apply Classical.byContradiction
  intro hn
  have : NoNul s := fun k hk e => hn ⟨k, hk, e⟩
  rw [← nulS_false] at this
  rw [this] at h
  cases h
theorem nulS_empty : nulS ⟨#[]⟩ = false := rfl
theorem size_zero {s : ByteArray} (h : s.size = 0) : s = ⟨#[]⟩ := by
  have : s.data = #[] := Array.eq_empty_of_size_eq_zero h
  cases s; simp_all

/-- What is wrong with an argument. -/
def wrongA (c : Int) (x : ArgT) (b : Int) : Int := if mayStandB c x = false then 42 else if x.1 = 3 then (if nulS x.2.2 then 13 else 0) else faultW c x.2.1 b

/-- The first wrong argument's error. -/
def wrongL (f : Frm) (b : Int) : Nat → List ArgT → Int
  | _, [] => 0
  | k, x :: l => if wrongA (letterI f k) x b = 0 then wrongL f b (k + 1) l else wrongA (letterI f k) x b

/-- An argument's words. -/
def wordsA (x : ArgT) : List Int := if x.1 = 3 then textW x.2.2 else [x.2.1]
theorem wordsA_len (x : ArgT) : (wordsA x).length = if x.1 = 3 then x.2.2.size / 4 + 1 else 1 := by
  unfold wordsA
  split
  · exact textW_len _
  · rfl
def wordsL (l : List ArgT) : List Int := l.flatMap wordsA
/-- The ids ahead of the arguments. -/
def headW (f : Frm) (t r : Int) : List Int := (if f.2.1 then [t] else []) ++ (if f.2.2.1 then [r] else [])
/-- An instruction's words. -/
def rawL (f : Frm) (x : InstT) : List Int := headW f x.2.1 x.2.2.1 ++ wordsL x.2.2.2

/-- What is wrong with an instruction, its form being f. -/
def faultI (f : Frm) (x : InstT) (b : Int) : Int :=
  if idE f.2.1 x.2.1 b 40 ≠ 0 then idE f.2.1 x.2.1 b 40
  else if idE f.2.2.1 x.2.2.1 b 41 ≠ 0 then idE f.2.2.1 x.2.2.1 b 41
  else if wrongL f b 0 x.2.2.2 ≠ 0 then wrongL f b 0 x.2.2.2
  else if wholeN f x.2.2.2.length = false then 42
  else if 65535 < 1 + (rawL f x).length then 25 else 0
/-- What Raw answers: its error. -/
def rawE (x : InstT) (b : Int) : Int := if (lookF refT x.1).2 then faultI (lookF refT x.1).1 x b else 30
/-- Its words. -/
def rawWs (x : InstT) (b : Int) : List Int := if rawE x b = 0 then rawL (lookF refT x.1).1 x else []

theorem wrongL_zero {f : Frm} {b : Int} : ∀ {l : List ArgT} {k : Nat}, wrongL f b k l = 0 → ∀ j, j < l.length → wrongA (letterI f ((k + j : Nat) : Int)) (nthA l j) b = 0
  | [], _, _, j, hj => by simp at hj
  | x :: l, k, h, j, hj => by
    rw [wrongL] at h
    by_cases h0 : wrongA (letterI f k) x b = 0
    · rw [if_pos h0] at h
      cases j with
      | zero => exact h0
      | succ j =>
        have := wrongL_zero h j (by simpa using hj)
        rw [show k + (j + 1) = k + 1 + j by omega]
        exact this
    · rw [if_neg h0] at h; exact absurd h h0
/-- The first that is wrong. -/
theorem wrongL_first {f : Frm} {b : Int} : ∀ {l : List ArgT} {k j : Nat}, j < l.length → (∀ i, i < j → wrongA (letterI f ((k + i : Nat) : Int)) (nthA l i) b = 0) → wrongA (letterI f ((k + j : Nat) : Int)) (nthA l j) b ≠ 0 → wrongL f b k l = wrongA (letterI f ((k + j : Nat) : Int)) (nthA l j) b
  | [], _, j, hj, _, _ => by simp at hj
  | x :: l, k, 0, _, _, h => by
    rw [wrongL, if_neg (show ¬ wrongA (letterI f k) x b = 0 from h)]; rfl
  | x :: l, k, j + 1, hj, h0, h => by
    have h1 : wrongA (letterI f k) x b = 0 := h0 0 (by omega)
    rw [wrongL, if_pos h1]
    have e := wrongL_first (f := f) (b := b) (l := l) (k := k + 1) (j := j) (by simpa using hj) (fun i hi => by have := h0 (i + 1) (by omega); rw [show k + (i + 1) = k + 1 + i by omega] at this; exact this) (by rw [show k + (j + 1) = k + 1 + j by omega] at h; exact h)
    rw [e, show k + (j + 1) = k + 1 + j by omega]; rfl
theorem wrongL_none {f : Frm} {b : Int} : ∀ {l : List ArgT} {k : Nat}, (∀ i, i < l.length → wrongA (letterI f ((k + i : Nat) : Int)) (nthA l i) b = 0) → wrongL f b k l = 0
  | [], _, _ => rfl
  | x :: l, k, h => by
    have h1 : wrongA (letterI f k) x b = 0 := h 0 (by simp)
    rw [wrongL, if_pos h1]
    exact wrongL_none fun i hi => by have := h (i + 1) (by simpa using hi); rw [show k + (i + 1) = k + 1 + i by omega] at this; exact this

/-- An argument that is right stands, and has its letter's kind. -/
theorem wrongA_kind {c : Int} {x : ArgT} {b : Int} (h : wrongA c x b = 0) : c ≠ 0 ∧ x.1 = kindI c := by
  unfold wrongA at h
  split at h
  · cases h
  · rename_i hm
    simp [mayStandB] at hm
    exact ⟨hm.1, hm.2.1⟩

/-- Where all arguments stand, the kinds fit just if they are whole. -/
theorem fits_whole {f : Frm} {l : List ArgT} (h : ∀ i, i < l.length → letterI f (i : Int) ≠ 0 ∧ (nthA l i).1 = kindI (letterI f (i : Int))) : (fitsI true f (kindsL l)).2 = wholeN f l.length := by
  have hl : (kindsL l).length = l.length := by simp [kindsL]
  have hb : ∀ j, j < l.length → badK f (kindsL l) j = false := fun j hj => by
    obtain ⟨h1, h2⟩ := h j hj
    simp [badK, h1, kindsL_nth l j hj, h2]
  unfold fitsI
  rw [if_neg (by simp), hl, range_not _ hb]
  have e : (if wholeB f l.length = true then ((0 : Int), true) else ((l.length : Int), false)).2 = wholeB f l.length := by split <;> simp_all
  simp only [e]
  unfold wholeB wholeN
  rw [Bool.eq_iff_iff]
  by_cases h1 : (l.length : Int) < f.2.2.2.1.size
  · rw [if_pos h1]
    simp; constructor
    · omega
    · intro h2; omega
  · rw [if_neg h1]
    by_cases h2 : f.2.2.2.2.1.size = 0
    · rw [if_pos h2]
      have h3 : ¬ f.2.2.2.1.size < l.length := fun h3 => rest_of_letters (f := f) (zs := kindsL l) (fun j hj => hb j (by rw [← hl]; exact hj)) (by rw [hl]; exact h3) h2
      simp; omega
    · rw [if_neg h2]
      simp
      constructor
      · rintro (h3 | ⟨_, h3⟩)
        · rw [show (l.length : Int) - f.2.2.2.1.size = 0 by omega]; simp
        · exact h3
      · intro h3
        by_cases h4 : (l.length : Int) - f.2.2.2.1.size = 0
        · exact .inl h4
        · exact .inr ⟨by omega, h3⟩

/-- No row of Rest has a text. -/
def noText (f : Frm) : Bool := f.2.2.2.2.1.data.toList.all (fun x => x != 115)
theorem refT_noText : refT.all (fun p => noText p.2 && shortF p.2) = true := by decide +kernel
theorem look_noText (n : Int) : noText (lookF refT n).1 = true ∧ shortF (lookF refT n).1 = true := by
  by_cases h : (lookF refT n).2 = true
  · have := (List.all_eq_true.1 refT_noText) _ (lookF_true h)
    simpa using this
  · rw [(lookF_false (by simpa using h)).1]; exact ⟨rfl, rfl⟩
theorem text_fixed {f : Frm} (hf : noText f = true) {k : Nat} (h : kindI (letterI f (k : Int)) = 3) : k < f.2.2.2.1.size := by
  apply Classical.byContradiction
  intro hn
  have hk : kindI 0 ≠ 3 := by decide
  unfold letterI at h
  rw [if_neg (by omega), if_neg (by omega)] at h
  split at h
  · rename_i hm
    generalize hj : (((k : Int) - f.2.2.2.1.size) % f.2.2.2.2.1.size).toNat = j at h
    have hlt : j < f.2.2.2.2.1.size := by
      unfold mayB at hm
      by_cases h0 : f.2.2.2.2.1.size = 0
      · rw [if_pos h0] at hm; cases hm
      · have := Int.emod_lt_of_pos ((k : Int) - f.2.2.2.1.size) (show (0 : Int) < f.2.2.2.2.1.size by omega)
        have := Int.emod_nonneg ((k : Int) - f.2.2.2.1.size) (show (f.2.2.2.2.1.size : Int) ≠ 0 by omega)
        omega
    have h1 : sgn f.2.2.2.2.1 j = 115 := by
      unfold kindI at h
      split at h
      · cases h
      · split at h
        · cases h
        · split at h
          · assumption
          · split at h <;> cases h
    have hl : j < f.2.2.2.2.1.data.toList.length := by rw [size_list]; exact hlt
    have h2 := (List.all_eq_true.1 hf) (f.2.2.2.2.1.data.toList[j]) (List.getElem_mem hl)
    simp only [bne_iff_ne, ne_eq] at h2
    apply h2
    have h3 : (f.2.2.2.2.1.data.toList[j]).toNat = 115 := by
      unfold sgn at h1
      rw [List.getD, List.getElem?_eq_getElem hl] at h1
      simp only [Option.getD_some] at h1
      omega
    exact UInt8.toNat_inj.1 h3
  · exact hk h

theorem wordsL_take (l : List ArgT) (k : Nat) (h : k < l.length) : wordsL (l.take (k + 1)) = wordsL (l.take k) ++ wordsA (nthA l k) := by
  unfold wordsL
  rw [List.take_add_one, List.getElem?_eq_getElem h, nthA_lt _ _ h, Option.toList_some, List.flatMap_append]
  simp

end Go.Proofs.Ytpggcpnjcalfaaa

/-
  What the methods ownId and inst of the package code's writer do.
-/
namespace Go.Proofs.Ytpggcpnjcalfaaa
open Go.RowKit
set_option linter.unusedVariables false
set_option linter.unusedSimpArgs false
set_option maxRecDepth 10000

def hasL (has : Bool) (c : Int) (zs : List Int) (n : Int) : List Int := if has then putL c 1 zs [n] else zs
def hasC (has : Bool) (c : Int) : Int := if has then c + 1 else c

set_option maxHeartbeats 1000000 in
theorem ownIdW_any (B : Nat) (o : Int) (f : Frm) (b : Int) (zs : List Int) (c : Int) (n : Int) (has : Bool) (wr : Int) (w : World) (hW : Wrt w B o f b zs c) (hc : c + 1 < 9223372036854775808) (hwr : wr ≠ 0) :
    Calls Try.prog 87 #[.pointer (some ⟨B, 0, none⟩), .int .u32 n, .bool has, .int .i64 wr] w fun e w' => e = .returned (.int .i64 (idE has n b wr)) ∧ KeepW B w w' ∧ (idE has n b wr = 0 → Wrt w' B o f b (hasL has c zs n) (hasC has c)) ∧ (idE has n b wr ≠ 0 → Wrt w' B o f b zs c) := by
  by_cases hn : n = 0
  · subst hn
    cases has
    · have e1 : idE false 0 b wr = 0 := by simp [idE]
      rw [e1]
      go_enter Try.func87, Try.ntmps87
      go_wp2
      go_ret
      exact ⟨rfl, KeepW.refl _ _, fun _ => hW, fun _ => hW⟩
    · have e1 : idE true 0 b wr = wr := by simp [idE]
      rw [e1]
      go_enter Try.func87, Try.ntmps87
      go_wp2
      go_ret
      exact ⟨rfl, KeepW.refl _ _, fun h => absurd h hwr, fun _ => hW⟩
  · have hn' : (n == 0) = false := by simpa using hn
    have hn2 : (n != 0) = true := by simpa using hn
    cases has
    · have e1 : idE false n b wr = wr := by simp [idE, hn]
      rw [e1]
      go_enter Try.func87, Try.ntmps87
      go_wp2
      go_ret
      exact ⟨rfl, KeepW.refl _ _, fun h => absurd h hwr, fun _ => hW⟩
    · have e1 : idE true n b wr = faultW 105 n b := by
        have : kindI 105 = 1 := by decide
        simp [idE, hn, faultW, this, noneB]
      have hP := putWord_any B o f b zs c 105 (1, n, ⟨#[]⟩) w hW hc
      unfold argV at hP
      simp only at hP
      rw [e1]
      generalize faultW 105 n b = r at *
      clear e1
      go_enter Try.func87, Try.ntmps87
      go_wp2_with fail
      refine hP.mono ?_
      rintro e w1 ⟨rfl, hk, hw1, hw2⟩
      clear hP
      go_wp2
      go_ret
      exact ⟨rfl, hk, hw1, hw2⟩

theorem Wrt.cells {w : World} {B : Nat} {o : Int} {f : Frm} {b : Int} {zs : List Int} {c : Int} (h : Wrt w B o f b zs c) : w.cell? ⟨B, 0, none⟩ = some (.int .u16 o) ∧ w.cell? ⟨B, 2, none⟩ = some (.bool f.2.1) ∧ w.cell? ⟨B, 3, none⟩ = some (.bool f.2.2.1) ∧ w.cell? ⟨B, 10, none⟩ = some (.int .i64 c) := by
  obtain ⟨⟨v, h1, h2⟩, h3⟩ := h
  obtain ⟨hc, _⟩ := one_block h1
  exact ⟨hc 0, hc 2, hc 3, hc 10⟩

/-- Arguments that lie below a block. -/
def ArgsL (w : World) (B : Nat) (a : Option Addr) (l : List ArgT) : Prop :=
  ∀ j, j < l.length → ∃ b off, a = some ⟨b, off, none⟩ ∧ b < B ∧ w.cell? ⟨b, off + j * 3, none⟩ = some (.int .u8 (nthA l j).1) ∧ w.cell? ⟨b, off + j * 3 + 1, none⟩ = some (.int .u32 (nthA l j).2.1) ∧ w.cell? ⟨b, off + j * 3 + 2, none⟩ = some (.string (nthA l j).2.2)
theorem ArgsL.of {w : World} {a : Option Addr} {l : List ArgT} (h : ArgsV w a l) : ArgsL w w.heap.size a l := h
theorem ArgsL.view {w : World} {B : Nat} {a : Option Addr} {l : List ArgT} (h : ArgsL w B a l) (hB : B ≤ w.heap.size) : ArgsV w a l := fun j hj => by
  obtain ⟨b, off, e, hlt, h1⟩ := h j hj
  exact ⟨b, off, e, by omega, h1⟩
theorem ArgsL.below {w w' : World} {B : Nat} {a : Option Addr} {l : List ArgT} (h : ArgsL w B a l) (hb : Below B w w') : ArgsL w' B a l := fun j hj => by
  obtain ⟨b, off, e, hlt, h1, h2, h3⟩ := h j hj
  exact ⟨b, off, e, hlt, (hb.cell (p := ⟨b, off + j * 3, none⟩) hlt).trans h1, (hb.cell (p := ⟨b, off + j * 3 + 1, none⟩) hlt).trans h2, (hb.cell (p := ⟨b, off + j * 3 + 2, none⟩) hlt).trans h3⟩
theorem ArgsL.mono {w : World} {B B' : Nat} {a : Option Addr} {l : List ArgT} (h : ArgsL w B a l) (hb : B ≤ B') : ArgsL w B' a l := fun j hj => by
  obtain ⟨b, off, e, hlt, h1⟩ := h j hj
  exact ⟨b, off, e, by omega, h1⟩

theorem ids_words (f : Frm) (t r : Int) : hasL f.2.2.1 (hasC f.2.1 1) (hasL f.2.1 1 [] t) r = headW f t r ∧ hasC f.2.2.1 (hasC f.2.1 1) = 1 + (headW f t r).length := by
  cases h1 : f.2.1 <;> cases h2 : f.2.2.1 <;> simp [hasL, hasC, headW, h1, h2, putL]

theorem four_cells {w : World} {G T : Nat} {a b c d : Value} (h : w.heap[G]? = some (.cells #[a, b, c, d] T (0, 0))) : w.cell? ⟨G, 0, none⟩ = some a ∧ w.cell? ⟨G, 1, none⟩ = some b ∧ w.cell? ⟨G, 2, none⟩ = some c ∧ w.cell? ⟨G, 3, none⟩ = some d := by
  obtain ⟨hc, _⟩ := one_block h
  exact ⟨hc 0, hc 1, hc 2, hc 3⟩

set_option maxHeartbeats 2000000 in
theorem winst_any (B : Nat) (f : Frm) (b : Int) (x : InstT) (ax : Option Addr) (n cx : Nat) (w : World) (hW : Wrt w B x.1 f b [] 1) (hf : lookF refT x.1 = (f, true)) (hok : InstOk x) (hv : ArgsL w B ax x.2.2.2) (hl : x.2.2.2.length = n) :
    Calls Try.prog 79 #[.pointer (some ⟨B, 0, none⟩), instV x ax n cx] w fun e w' => e = .returned (.int .i64 (faultI f x b)) ∧ KeepW B w w' ∧ (faultI f x b = 0 → ∃ c, Wrt w' B x.1 f b (rawL f x) c) := by
  obtain ⟨xo, xt, xr, xl⟩ := x
  unfold instV
  simp only at *
  obtain ⟨_, _, _, _, _, _, hal, han⟩ := hok
  simp only at *
  have hBl := hW.lt
  have hb1 : Below w.heap.size w (w.alloc (.cells #[.int .u16 xo, .int .u32 xt, .int .u32 xr, .slice ax n cx] 29)) := (Below.refl _ w).alloc (Nat.le_refl _) _
  have hW1 := hW.below hb1
  have hG1 := alloc_new w #[.int .u16 xo, .int .u32 xt, .int .u32 xr, .slice ax n cx] 29
  have hK1 := KeepW.of_below hb1 (Nat.le_of_lt hBl)
  have hO := fun zs c n has wr wx (h : Wrt wx B xo f b zs c) h2 h3 => ownIdW_any B xo f b zs c n has wr wx h h2 h3
  have HE : Hid (faultI f (xo, xt, xr, xl) b = if idE f.2.1 xt b 40 ≠ 0 then idE f.2.1 xt b 40 else if idE f.2.2.1 xr b 41 ≠ 0 then idE f.2.2.1 xr b 41 else if wrongL f b 0 xl ≠ 0 then wrongL f b 0 xl else if wholeN f xl.length = false then 42 else if 65535 < 1 + (rawL f (xo, xt, xr, xl)).length then 25 else 0) := rfl
  generalize hfe : faultI f (xo, xt, xr, xl) b = fe at HE ⊢
  clear hfe
  have iw := ids_words f xt xr
  go_enter Try.func79, Try.ntmps79
  go_wp2_with fail
  generalize w.alloc (.cells #[.int .u16 xo, .int .u32 xt, .int .u32 xr, .slice ax n cx] 29) = W at *
  have hO1 := hO [] 1 xt f.2.1 40 W.drew (hW1.below (below_drew W)) (by omega) (by omega)
  have c1 := hW1.cells.2.1
  have c2 := (four_cells hG1).2.1
  generalize hr1 : idE f.2.1 xt b 40 = r1 at *
  go_region_held2 (fun wx => wx.cell? ⟨B, 2, none⟩ = some (.bool f.2.1) ∧ wx.cell? ⟨w.heap.size, 1, none⟩ = some (.int .u32 xt))
    (first | exact ⟨c1, c2⟩ | assumption)
    (first | (go_at_call 87; refine hO1.mono ?_; rintro e w2 ⟨rfl, hk2, hy2, hn2⟩; have hS : w2.cell? ⟨B, 2, none⟩ = some (.bool f.2.1) ∧ w2.cell? ⟨w.heap.size, 1, none⟩ = some (.int .u32 xt) := ⟨(by by_cases h : r1 = 0; exact (hy2 h).cells.2.1; exact (hn2 h).cells.2.1), (four_cells (hk2.keep _ _ _ _ hG1 (by omega) (by decide))).2.1⟩))
  clear hO1 c1 c2
  have hK2 : KeepW B w w2 := hK1.trans ((KeepW.of_below (below_drew W) (by have := hb1.size; omega)).trans hk2)
  have hG2 := hk2.keep _ _ _ _ hG1 (by omega) (by decide)
  clear hk2 hG1 hW1 hK1
  by_cases z1 : r1 = 0
  · subst z1
    have hW2 := hy2 rfl
    clear hy2 hn2 hS
    go_wp2
    have hO2 := hO (hasL f.2.1 1 [] xt) (hasC f.2.1 1) xr f.2.2.1 41 w2.drew (hW2.below (below_drew w2)) (by unfold hasC; split <;> omega) (by omega)
    rw [iw.1, iw.2] at hO2
    have c1 := hW2.cells.2.2.1
    have c2 := (four_cells hG2).2.2.1
    generalize hr2 : idE f.2.2.1 xr b 41 = r2 at *
    go_region_held2 (fun wx => wx.cell? ⟨B, 3, none⟩ = some (.bool f.2.2.1) ∧ wx.cell? ⟨w.heap.size, 2, none⟩ = some (.int .u32 xr))
      (first | exact ⟨c1, c2⟩ | assumption)
      (first | (go_at_call 87; refine hO2.mono ?_; rintro e w3 ⟨rfl, hk3, hy3, hn3⟩; have hS : w3.cell? ⟨B, 3, none⟩ = some (.bool f.2.2.1) ∧ w3.cell? ⟨w.heap.size, 2, none⟩ = some (.int .u32 xr) := ⟨(by by_cases h : r2 = 0; exact (hy3 h).cells.2.2.1; exact (hn3 h).cells.2.2.1), (four_cells (hk3.keep _ _ _ _ hG2 (by omega) (by decide))).2.2.1⟩))
    clear hO2 c1 c2
    have hK3 : KeepW B w w3 := hK2.trans ((KeepW.of_below (below_drew w2) (by have := hK2.below.size; omega)).trans hk3)
    have hG3 := hk3.keep _ _ _ _ hG2 (by omega) (by decide)
    clear hk3 hG2 hW2 hK2
    by_cases z2 : r2 = 0
    · subst z2
      have hW3 := hy3 rfl
      clear hy3 hn3 hS
      have c3 := (four_cells hG3).2.2.2
      have hK3w := hK3
      go_wp2
      have HF : Hid (lookF refT xo = (f, true)) := hf
      have HL : Hid (xl.length = n) := hl
      have hLt := fun (k : Nat) (hk : k < 140737488351232) w => grammarLetter_any xo k w (by omega)
      rw [hf] at hLt
      have hsh := look_noText xo
      rw [hf] at hsh
      obtain ⟨hnt, hsf⟩ := hsh
      have hfx : f.2.2.2.1.size ≤ 1000 := by simp [shortF] at hsf; omega
      have hc0 : ((headW f xt xr).length : Int) ≤ 2 := by
        unfold headW
        cases f.2.1 <;> cases f.2.2.1 <;> simp
      have hn47 : n < 140737488351232 := by omega
      have hWh := fun wx (h : ArgsV wx ax xl) (h0 : wx.cell? ⟨B, 0, none⟩ = some (.int .u16 xo)) (hB : B < wx.heap.size) => formWhole_any B xo ax n cx xl wx hB h0 h hl (by omega)
      rw [hf] at hWh
      have hfeW : ∀ v, v ≠ 0 → wrongL f b 0 xl = v → fe = v := fun v hv h => by rw [HE.out, h]; simp [hv]
      have hfeH : wrongL f b 0 xl = 0 → wholeN f xl.length = false → fe = 42 := fun h h2 => by rw [HE.out, h, h2]; simp
      have hfeC : wrongL f b 0 xl = 0 → wholeN f xl.length = true → fe = if 65535 < 1 + (rawL f (xo, xt, xr, xl)).length then 25 else 0 := fun h h2 => by rw [HE.out, h, h2]; simp
      clear HE hf hl hsf hO
      go_loopw [41] (fun i wr => ∃ (k : Nat) (zs : List Int) (c : Int), k ≤ n ∧ i = .int .i64 k ∧ Wrt wr B xo f b zs c ∧ KeepW B w wr ∧ wr.heap[w.heap.size]? = some (.cells #[.int .u16 xo, .int .u32 xt, .int .u32 xr, .slice ax n cx] 29 (0, 0)) ∧ (∀ j, j < k → wrongA (letterI f (j : Int)) (nthA xl j) b = 0) ∧
          c = 1 + (headW f xt xr).length + (wordsL (xl.take k)).length ∧ (c ≤ 65535 → zs = headW f xt xr ++ wordsL (xl.take k)) ∧ c ≤ 3 + k + ((min k 1000 : Nat) : Int) * 140737488351233) (fun i _ => n - (intOf i).toNat)
      case atStart => exact ⟨0, _, _, Nat.zero_le _, rfl, hW3, hK3w, hG3, fun j hj => by omega, by simp [wordsL], fun _ => by simp [wordsL], by simp; omega⟩
      case round =>
        obtain ⟨k, zs, c, hk, rfl, hWr, hKr, hGr, hall, hce, hzs, hcb⟩ := hrel
        clear hW3 hK3 hK3w hG3 c3
        have HALL : Hid (∀ j, j < k → wrongA (letterI f (j : Int)) (nthA xl j) b = 0) := hall
        have HCE : Hid (c = 1 + (headW f xt xr).length + (wordsL (xl.take k)).length) := hce
        have HZS : Hid (c ≤ 65535 → zs = headW f xt xr ++ wordsL (xl.take k)) := hzs
        clear hall hce hzs
        have hBr := hWr.lt
        have hszr := hKr.below.size
        have hA := hv.below hKr.below
        by_cases hlt : k < n
        · have hkl : k < xl.length := by rw [HL.out]; exact hlt
          obtain ⟨b1, o1, rfl, hb1l, p1, p2, p3⟩ := hA k hkl
          have hax := hal k hkl
          have hL := hLt k (by omega)
          have hMs := fun w => mayStand_any (letterI f (k : Int)) (nthA xl k) w
          have hPW := fun wx (h : Wrt wx B xo f b zs c) => putWord_any B xo f b zs c (letterI f (k : Int)) (nthA xl k) wx h (by omega)
          have hPN := fun wx (h : Wrt wx B xo f b zs c) j hj h0 => putText_nul B xo f b zs c (letterI f (k : Int)) (nthA xl k) wx h j hj h0
          have hPT := fun wx (h : Wrt wx B xo f b zs c) (hnn : NoNul (nthA xl k).2.2) (h2 : (nthA xl k).2.2.size ≤ 140737488351232) => putText_ok B xo f b zs c (letterI f (k : Int)) (nthA xl k) wx h hnn h2 (by omega)
          have hPu := fun w => putter_any B (nthA xl k).1 w
          unfold argV at hMs hPW hPN hPT
          have hki : (k : Int) < (n : Int) := by omega
          have hk0 : (0 : Int) ≤ (k : Int) := by omega
          have w0 := hWr.cells.1
          have hwr : ∀ v, v ≠ 0 → wrongA (letterI f (k : Int)) (nthA xl k) b = v → fe = v := fun v hv0 h => hfeW v hv0 (by
            rw [wrongL_first (k := 0) (j := k) hkl (fun i hi => by rw [Nat.zero_add]; exact HALL.out i hi) (by rw [Nat.zero_add, h]; exact hv0), Nat.zero_add, h])
          have hnext : wrongA (letterI f (k : Int)) (nthA xl k) b = 0 → ∀ j, j < k + 1 → wrongA (letterI f (j : Int)) (nthA xl j) b = 0 := fun h j hj => by
            by_cases hjk : j < k
            · exact HALL.out j hjk
            · obtain rfl : j = k := by omega
              exact h
          have htk := wordsL_take xl k hkl
          have hkind : kindI (letterI f (k : Int)) = 3 → k < 1000 := fun h => Nat.lt_of_lt_of_le (text_fixed hnt h) hfx
          have HN : Hid (∀ v, v ≠ 0 → wrongA (letterI f (k : Int)) (nthA xl k) b = v → fe = v) := hwr
          have HX : Hid (wrongA (letterI f (k : Int)) (nthA xl k) b = 0 → ∀ j, j < k + 1 → wrongA (letterI f (j : Int)) (nthA xl j) b = 0) := hnext
          have HT : Hid (wordsL (xl.take (k + 1)) = wordsL (xl.take k) ++ wordsA (nthA xl k)) := htk
          have HKD : Hid (kindI (letterI f (k : Int)) = 3 → k < 1000) := hkind
          clear hwr hnext htk hkind hA hWh hfeW hfeH hfeC hLt hnt hfx
          generalize nthA xl k = z at *
          obtain ⟨z1, z2, z3⟩ := z
          generalize letterI f (k : Int) = cc at *
          simp only at *
          go_wp2_with fail
          have hb4 : Below wr.heap.size wr (wr.alloc (.cells #[.int .u8 z1, .int .u32 z2, .string z3] 65)) := (Below.refl _ wr).alloc (Nat.le_refl _) _
          have kA := alloc_new wr #[.int .u8 z1, .int .u32 z2, .string z3] 65
          have hl4 : wr.heap.size < (wr.alloc (.cells #[.int .u8 z1, .int .u32 z2, .string z3] 65)).heap.size := by simp
          generalize wr.alloc (.cells #[.int .u8 z1, .int .u32 z2, .string z3] 65) = W4 at *
          refine (hL _).mono ?_
          rintro e w5 ⟨rfl, hb5⟩
          have kA5 := (hb5.block _ hl4).trans kA
          have s5 := hb5.size
          obtain ⟨hc5, _⟩ := one_block kA5
          have a0 := hc5 0
          have a1 := hc5 1
          have a2 := hc5 2
          clear hc5 hL
          go_wp2_with fail
          refine (hMs _).mono ?_
          rintro e w6 ⟨rfl, hb6⟩
          have s6 := hb6.size
          have kA6 := (hb6.block _ (by omega)).trans kA5
          have hb46 := hb4.trans ((hb5.trans (hb6.mono s5)).mono (by omega))
          have hW6 := hWr.below hb46
          have hG6 := (hb46.block _ (Array.getElem?_eq_some_iff.1 hGr).1).trans hGr
          have hK6 := hKr.trans (KeepW.of_below hb46 (by omega))
          obtain ⟨hc6, _⟩ := one_block kA6
          have d0 := hc6 0
          have d1 := hc6 1
          have d2 := hc6 2
          have HG6 : Hid (w6.heap[w.heap.size]? = some (.cells #[.int .u16 xo, .int .u32 xt, .int .u32 xr, .slice (some ⟨b1, o1, none⟩) n cx] 29 (0, 0))) := hG6
          have HK6 : Hid (KeepW B w w6) := hK6
          have HW6 : Hid (Wrt w6 B xo f b zs c) := hW6
          clear hc6 a0 a1 a2 kA5 kA6 kA hb4 hb5 hb6 hMs hb46 hG6 hK6 hW6 hGr hWr hKr p1 p2 p3 hl4 s5 s6
          cases hms : mayStandB cc (z1, z2, z3)
          · have e1 : fe = 42 := HN.out 42 (by decide) (by rw [wrongA, if_pos hms])
            subst e1
            clear d0 d1 d2
            go_wp2
            go_ret
            exact ⟨rfl, HK6.out, fun h => by cases h⟩
          · have HMS : Hid (wrongA cc (z1, z2, z3) b = if z1 = 3 then (if nulS z3 then 13 else 0) else faultW cc z2 b) := by
              show _ = _
              rw [wrongA, hms]; simp
            have HKC : Hid (z1 = kindI cc) := by
              unfold mayStandB at hms
              simp only [Bool.and_eq_true] at hms
              exact eq_of_beq hms.1.2
            clear hms
            go_wp2_with fail
            refine (hPu _).mono ?_
            rintro e w7 ⟨rfl, rfl⟩
            by_cases k3 : z1 = 3
            · subst k3
              rw [if_pos rfl]
              cases hnu : nulS z3
              · have e0 : wrongA cc (3, z2, z3) b = 0 := by rw [HMS.out, hnu]; simp
                have hP := hPT w6 HW6.out (nulS_false.1 hnu) hax.2.2.2.2
                have hrm : z3.size ≤ 140737488351232 := hax.2.2.2.2
                have hk1 := HKD.out HKC.out.symm
                have hlw : (wordsA (3, z2, z3)).length = z3.size / 4 + 1 := by rw [wordsA_len]; simp
                have hww : wordsA (3, z2, z3) = textW z3 := by rw [wordsA]; simp
                obtain ⟨m, hm⟩ : ∃ m, m = z3.size / 4 + 1 := ⟨_, rfl⟩
                rw [← hm] at hP hlw
                have hmb : m ≤ 140737488351232 := by omega
                clear hm
                go_wp2_with fail
                refine hP.mono ?_
                rintro e w8 ⟨rfl, hk8, hW8⟩
                clear hP hPW hPN hPT hPu d0 d1 d2
                go_wp2
                go_roundw
                case rel =>
                  refine ⟨k + 1, _, _, by omega, by go_num, hW8, HK6.out.trans hk8, hk8.keep _ _ _ _ HG6.out (by omega) (by decide), HX.out e0, ?_, fun h => ?_, ?_⟩
                  · rw [HT.out, List.length_append, hlw, HCE.out]; push_cast; omega
                  · rw [putL, if_pos h, HZS.out (by omega), HT.out, hww, List.append_assoc]
                  · push_cast; omega
                case measure => simp [intOf]; omega
              · have e1 : fe = 13 := HN.out 13 (by decide) (by rw [HMS.out, hnu]; simp)
                subst e1
                obtain ⟨j, hj, h0⟩ := nulS_true hnu
                have hP := hPN w6 HW6.out j hj h0
                go_wp2_with fail
                refine hP.mono ?_
                rintro e w8 ⟨rfl, hk8⟩
                clear hP hPW hPN hPT hPu d0 d1 d2
                go_wp2
                go_ret
                exact ⟨rfl, HK6.out.trans hk8, fun h => by cases h⟩
            · rw [if_neg k3]
              have hP := hPW w6 HW6.out
              have HMS2 : Hid (wrongA cc (z1, z2, z3) b = faultW cc z2 b) := by show _ = _; rw [HMS.out, if_neg k3]
              have hww : wordsA (z1, z2, z3) = [z2] := by rw [wordsA]; simp [k3]
              generalize faultW cc z2 b = r at *
              go_wp2_with fail
              refine hP.mono ?_
              rintro e w8 ⟨rfl, hk8, hy8, _⟩
              clear hP hPW hPN hPT hPu d0 d1 d2
              by_cases hr0 : r = 0
              · subst hr0
                have hW8 := hy8 rfl
                go_wp2
                go_roundw
                case rel =>
                  refine ⟨k + 1, _, _, by omega, by go_num, hW8, HK6.out.trans hk8, hk8.keep _ _ _ _ HG6.out (by omega) (by decide), HX.out HMS2.out, ?_, fun h => ?_, ?_⟩
                  · rw [HT.out, List.length_append, hww, HCE.out]; simp; omega
                  · rw [putL, if_pos h, HZS.out (by omega), HT.out, hww, List.append_assoc]
                  · push_cast; omega
                case measure => simp [intOf]; omega
              · have e1 : fe = r := HN.out r hr0 HMS2.out
                subst e1
                go_wp2
                go_ret
                exact ⟨rfl, HK6.out.trans hk8, fun h => absurd h hr0⟩
        · obtain rfl : k = n := by omega
          have hwl : wrongL f b 0 xl = 0 := wrongL_none fun i hi => by rw [Nat.zero_add]; exact HALL.out i (by rw [← HL.out]; exact hi)
          have hfw := fits_whole (f := f) (l := xl) (fun i hi => wrongA_kind (HALL.out i (by rw [← HL.out]; exact hi)))
          have htk : xl.take k = xl := List.take_of_length_le (by rw [HL.out]; exact Nat.le_refl _)
          have hcR : c = ((1 + (rawL f (xo, xt, xr, xl)).length : Nat) : Int) := by rw [HCE.out, htk, rawL, List.length_append]; push_cast; omega
          have hzR : c ≤ 65535 → zs = rawL f (xo, xt, xr, xl) := fun h => by rw [HZS.out h, htk]; rfl
          have hfC := hfeC hwl
          have hfH := hfeH hwl
          have c3 := (four_cells hGr).2.2.2
          have c10 := hWr.cells.2.2.2
          have hw0 := hWr.cells.1
          have HGR : Hid _ := hGr
          have HKR : Hid (KeepW B w wr) := hKr
          have HWR : Hid (Wrt wr B xo f b zs c) := hWr
          have hV := hA.view (by omega)
          clear hv hA hGr hKr hWr hfeC hfeH hfeW hLt HALL HCE HZS hwl htk
          go_wp2
          have a3 := fun s : InC (Below wr.heap.size wr) => s.cell (p := ⟨w.heap.size, 3, none⟩) (Array.getElem?_eq_some_iff.1 HGR.out).1 c3
          have hF := fun s : InC (Below wr.heap.size wr) => Calls.inC s (hWh s.w (hV.below s.ok) (s.cell (p := ⟨B, 0, none⟩) hBr hw0) (by have := s.ok.size; omega))
          rw [hfw] at hF
          clear hWh hfw
          cases hwh : wholeN f xl.length
          · have e1 : fe = 42 := hfH hwh
            subst e1
            rw [hwh] at hF
            refine wp_region_class (C := Below wr.heap.size wr) (by kernel_rfl) (by kernel_rfl) (below_drew wr) ?_
            have hne : Nonempty (InC (Below wr.heap.size wr)) := ⟨⟨wr, Below.refl _ _⟩⟩
            repeat (go_big_quiet_step ((go_at_call 75; exact hF _)))
            refine wpQuiet_nil ?_
            rintro _ ⟨s, rfl⟩
            have hfin := HKR.out.trans (KeepW.of_below s.ok (by omega))
            clear hne hF a3
            go_wp2
            go_ret
            first | exact ⟨rfl, hfin, fun h => by cases h⟩ | exact ⟨rfl, hfin⟩
          · rw [hwh] at hF
            have hfe := hfC hwh
            refine wp_region_class (C := Below wr.heap.size wr) (by kernel_rfl) (by kernel_rfl) (below_drew wr) ?_
            have hne : Nonempty (InC (Below wr.heap.size wr)) := ⟨⟨wr, Below.refl _ _⟩⟩
            repeat (go_big_quiet_step ((go_at_call 75; exact hF _)))
            refine wpQuiet_nil ?_
            rintro _ ⟨s, rfl⟩
            have hfin := HKR.out.trans (KeepW.of_below s.ok (by omega))
            have hW9 := HWR.out.below s.ok
            have k10 := s.cell (p := ⟨B, 10, none⟩) hBr c10
            clear hne hF a3 c10 c3
            by_cases hlg : (65535 : Int) < c
            · have e1 : fe = 25 := by rw [hfe, if_pos (by omega)]
              clear hfe hcR hfC hfH hzR
              subst e1
              go_wp2
              go_ret
              first | exact ⟨rfl, hfin, fun h => by cases h⟩ | exact ⟨rfl, hfin⟩
            · have e1 : fe = 0 := by rw [hfe, if_neg (by omega)]
              have HZR : Hid (zs = rawL f (xo, xt, xr, xl)) := hzR (by omega)
              clear hfe hcR hfC hfH hzR
              subst e1
              go_wp2
              go_ret
              have hW10 : Wrt s.w B xo f b (rawL f (xo, xt, xr, xl)) c := by rw [← HZR.out]; exact hW9
              first | exact ⟨rfl, hfin, fun _ => ⟨c, hW10⟩⟩ | exact ⟨rfl, hfin, ⟨c, hW10⟩⟩
    · have e1 : fe = r2 := by rw [HE.out]; simp [z2]
      subst e1
      go_wp2
      go_ret
      exact ⟨rfl, hK3, fun h => absurd h z2⟩
  · have e1 : fe = r1 := by rw [HE.out]; simp [z1]
    subst e1
    go_wp2
    go_ret
    exact ⟨rfl, hK2, fun h => absurd h z1⟩

end Go.Proofs.Ytpggcpnjcalfaaa
