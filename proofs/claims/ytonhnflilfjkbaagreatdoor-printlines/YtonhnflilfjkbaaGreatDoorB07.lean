/-
  Texts laid together in one: CodePut, MathI, MathT, MathN, WordsByteAt, WordsTextEnd, WordsJoin, WordsText, WordsText2, SlicesClone, Ref01Byte, Ref01Text, WordsTextSame, WordsReader, WordsReaderCalls, CodeRarg, CodeRargs, RowI, FrameSmall, WordsTurned, FrameHeadFault, FrameReadHead, FrameApart, FrameParts, FrameRead, FrameTold, FrameParts2, FrameEach2, CodeRinst, WordsNew, CodeInst, Math2, MathR.
-/
import Derived.WalkSpells
import Derived.WalkMore
import Derived.Test.YtonhnflilfjkbaaGreatDoorB06
import Derived.Test.YtonhnflilfjkbaaGreatDoorB01
import Derived.Test.YtonhnflilfjkbaaGreatDoorB05
import Derived.Test.YtonhnflilfjkbaaGreatDoorB04
import Derived.Test.YtonhnflilfjkbaaGreatDoorProg
import Derived.Test.YtonhnflilfjkbaaGreatDoorB02
import Derived.Deep.QuietTactic
import Derived.BigQuiet
import Derived.Test.YtonhnflilfjkbaaGreatDoorB03
import Derived.Laws.AppendOwn
import Derived.BigRegion
import Derived.RangeFuncNested
import Derived.RangeFuncBound
import Derived.RangeFuncCalls
import Derived.RangeFuncLeaves
import Derived.Shelf.Abstract
import Derived.Shelf.RegionOpen
import Derived.WalkKit
import Derived.OwnWalkIn
import Derived.TacticsInMore
import Derived.LoopNIn
import Derived.LoopIn
import Derived.Deep.AppendLies
import Derived.Deep.RegionHeld2
/-
  What the methods of the package code's writer do that put one argument: a word, a text; and whether an argument may stand.
-/
namespace Go.Proofs.YtonhnflilfjkbaaGreatDoor
open Go.RowKit
set_option linter.unusedVariables false
set_option linter.unusedSimpArgs false
set_option maxRecDepth 10000

theorem view_one {w : World} (n : Int) : View .u32 (w.alloc (.cells #[.int .u32 n] 22)) (some ⟨w.heap.size, 0, none⟩) [n] := by
  intro j hj
  obtain rfl : j = 0 := by simpa using hj
  refine ⟨w.heap.size, 0, rfl, by simp, ?_⟩
  rw [Nat.zero_add, World.cell?_alloc_new]
  rfl

theorem Wrt.bound {w : World} {B : Nat} {o : Int} {f : Frm} {b : Int} {zs : List Int} {c : Int} (h : Wrt w B o f b zs c) : w.cell? ⟨B, 8, none⟩ = some (.int .u32 b) ∧ w.cell? ⟨B, 0, none⟩ = some (.int .u16 o) := by
  obtain ⟨⟨v, h1, h2⟩, h3⟩ := h
  obtain ⟨hc, _⟩ := one_block h1
  exact ⟨hc 8, hc 0⟩

set_option maxHeartbeats 1000000 in
theorem putWord_any (B : Nat) (o : Int) (f : Frm) (b : Int) (zs : List Int) (cn : Int) (c : Int) (x : ArgT) (w : World) (hW : Wrt w B o f b zs cn) (hc : cn + 1 < 9223372036854775808) :
    Calls Tryz.prog 125 #[.pointer (some ⟨B, 0, none⟩), .int .u8 c, argV x] w fun e w' => e = .returned (.int .i64 (faultW c x.2.1 b)) ∧ KeepW B w w' ∧ (faultW c x.2.1 b = 0 → Wrt w' B o f b (putL cn 1 zs [x.2.1]) (cn + 1)) ∧ (faultW c x.2.1 b ≠ 0 → Wrt w' B o f b zs cn) := by
  obtain ⟨kd, n, st⟩ := x
  unfold argV
  simp only
  have hBl := hW.lt
  have hW1 := hW.below ((Below.refl _ w).alloc (Nat.le_refl _) (.cells #[.int .u8 kd, .int .u32 n, .string st] 61))
  have hb1 : Below w.heap.size w (w.alloc (.cells #[.int .u8 kd, .int .u32 n, .string st] 61)) := (Below.refl _ w).alloc (Nat.le_refl _) _
  have hl1 : w.heap.size < (w.alloc (.cells #[.int .u8 kd, .int .u32 n, .string st] 61)).heap.size := by simp
  have hN : (w.alloc (.cells #[.int .u8 kd, .int .u32 n, .string st] 61)).cell? ⟨w.heap.size, 1, none⟩ = some (.int .u32 n) := (one_block (alloc_new w #[.int .u8 kd, .int .u32 n, .string st] 61)).1 1
  obtain ⟨r, hr⟩ : ∃ r, r = faultW c n b := ⟨_, rfl⟩
  by_cases h0 : faultW c n b = 0
  · rw [h0]
    go_enter Tryz.func125, Tryz.ntmps125
    go_wp2_with fail
    generalize w.alloc (.cells #[.int .u8 kd, .int .u32 n, .string st] 61) = W at *
    have a1 := fun s : InC (Below W.heap.size W) => s.cell (p := ⟨w.heap.size, 1, none⟩) hl1 hN
    have hF := fun s : InC (Below W.heap.size W) => Calls.inC s (faultW_any B c n b s.w (by have := s.ok.size; omega) (s.cell (p := ⟨B, 8, none⟩) (by show B < _; omega) hW1.bound.1))
    rw [h0] at hF
    refine wp_region_class (C := Below W.heap.size W) (by kernel_rfl) (by kernel_rfl) (below_drew W) ?_
    have hne : Nonempty (InC (Below W.heap.size W)) := ⟨⟨W, Below.refl _ _⟩⟩
    repeat (go_big_quiet_step ((go_at_call 149; exact hF _)))
    refine wpQuiet_nil ?_
    rintro _ ⟨s, rfl⟩
    have a2 := a1 s
    have hW2 := hW1.below s.ok
    have hbs := hb1.trans (s.ok.mono (by omega))
    have hss := hbs.size
    obtain ⟨s, hs⟩ := s
    simp only at *
    have hW3 := hW2.below ((Below.refl _ s).alloc (Nat.le_refl _) (.cells #[.int .u32 n] 22))
    have hA := add_any B o f b zs cn 1 (some ⟨s.heap.size, 0, none⟩) 1 1 [n] _ hW3 (view_one n) (newAt_mk (by omega)) rfl (by omega) hc
    have hK := KeepW.of_below (hbs.trans (((Below.refl _ s).alloc (Nat.le_refl _) (.cells #[.int .u32 n] 22)).mono hss)) (show B ≤ w.heap.size by omega)
    clear hne hF a1 hN hW1 hW2 hW3 hs
    go_wp2_with fail
    refine hA.mono ?_
    rintro e w4 ⟨rfl, hk4, hW4⟩
    clear hA a2
    go_wp2
    go_ret
    exact ⟨rfl, hK.trans hk4, fun _ => hW4, fun h => absurd rfl h⟩
  · have hr0 : ¬ r = 0 := by rw [hr]; exact h0
    rw [← hr]
    go_enter Tryz.func125, Tryz.ntmps125
    go_wp2_with fail
    generalize w.alloc (.cells #[.int .u8 kd, .int .u32 n, .string st] 61) = W at *
    have a1 := fun s : InC (Below W.heap.size W) => s.cell (p := ⟨w.heap.size, 1, none⟩) hl1 hN
    have hF := fun s : InC (Below W.heap.size W) => Calls.inC s (faultW_any B c n b s.w (by have := s.ok.size; omega) (s.cell (p := ⟨B, 8, none⟩) (by show B < _; omega) hW1.bound.1))
    rw [← hr] at hF
    have HR : Hid (r = faultW c n b) := hr
    clear hr h0
    refine wp_region_class (C := Below W.heap.size W) (by kernel_rfl) (by kernel_rfl) (below_drew W) ?_
    have hne : Nonempty (InC (Below W.heap.size W)) := ⟨⟨W, Below.refl _ _⟩⟩
    repeat (go_big_quiet_step ((go_at_call 149; exact hF _)))
    refine wpQuiet_nil ?_
    rintro _ ⟨s, rfl⟩
    have hbs := hb1.trans (s.ok.mono (by omega))
    have hW2 := hW1.below s.ok
    clear hne hF a1 hN
    go_wp2
    go_ret
    exact ⟨rfl, KeepW.of_below hbs (by omega), fun h => absurd h hr0, fun _ => hW2⟩

theorem putText_nul (B : Nat) (o : Int) (f : Frm) (b : Int) (zs : List Int) (cn : Int) (c : Int) (x : ArgT) (w : World) (hW : Wrt w B o f b zs cn) (k : Nat) (hk : k < x.2.2.size) (h : nth (strI x.2.2) k = 0) :
    Calls Tryz.prog 127 #[.pointer (some ⟨B, 0, none⟩), .int .u8 c, argV x] w fun e w' => e = .returned (.int .i64 13) ∧ KeepW B w w' := by
  obtain ⟨kd, n, st⟩ := x
  unfold argV
  simp only at *
  have hO := fun w => ofText_nul st w k hk h
  have hBl := hW.lt
  clear h
  go_enter Tryz.func127, Tryz.ntmps127
  go_wp2_with fail
  refine (hO _).mono ?_
  rintro e w1 ⟨rfl, rfl⟩
  go_wp2
  go_ret
  exact ⟨rfl, KeepW.of_below ((Below.refl _ w).alloc (Nat.le_refl _) _) (by omega)⟩

theorem putText_ok (B : Nat) (o : Int) (f : Frm) (b : Int) (zs : List Int) (cn : Int) (c : Int) (x : ArgT) (w : World) (hW : Wrt w B o f b zs cn) (h : NoNul x.2.2) (hs : x.2.2.size ≤ 140737488351232) (hc : cn + ((x.2.2.size / 4 + 1 : Nat) : Int) < 9223372036854775808) :
    Calls Tryz.prog 127 #[.pointer (some ⟨B, 0, none⟩), .int .u8 c, argV x] w fun e w' => e = .returned (.int .i64 0) ∧ KeepW B w w' ∧ Wrt w' B o f b (putL cn ((x.2.2.size / 4 + 1 : Nat) : Int) zs (textW x.2.2)) (cn + ((x.2.2.size / 4 + 1 : Nat) : Int)) := by
  obtain ⟨kd, n, st⟩ := x
  unfold argV
  simp only at *
  have hBl := hW.lt
  have hlen := hW.len
  have hRm := fun w => room_any st w hs
  have hW1 := hW.below ((Below.refl _ w).alloc (Nat.le_refl _) (.cells #[.int .u8 kd, .int .u32 n, .string st] 61))
  have hb1 : Below w.heap.size w (w.alloc (.cells #[.int .u8 kd, .int .u32 n, .string st] 61)) := (Below.refl _ w).alloc (Nat.le_refl _) _
  have hl1 : w.heap.size < (w.alloc (.cells #[.int .u8 kd, .int .u32 n, .string st] 61)).heap.size := by simp
  have hS := fun i => (one_block (alloc_new w #[.int .u8 kd, .int .u32 n, .string st] 61)).1 i
  by_cases hl : st.size / 4 + 1 ≤ 65535
  · have hO := fun w => ofText_ok st w h hl
    have hT := textW_len st
    clear h
    obtain ⟨m, hm⟩ : ∃ m, m = st.size / 4 + 1 := ⟨_, rfl⟩
    rw [← hm] at hT hl hc ⊢
    simp only [← hm] at hO hRm
    have HM : Hid (m = st.size / 4 + 1) := hm
    clear hm
    obtain ⟨zs', hz⟩ : ∃ z, z = putL cn (m : Int) zs (textW st) := ⟨_, rfl⟩
    rw [← hz]
    go_enter Tryz.func127, Tryz.ntmps127
    go_wp2_with fail
    generalize w.alloc (.cells #[.int .u8 kd, .int .u32 n, .string st] 61) = W at *
    refine (hO _).mono ?_
    rintro e w2 ⟨rfl, hown2, hb2⟩
    have hS2 : w2.cell? ⟨w.heap.size, 2, none⟩ = some (.string st) := (hb2.cell (p := ⟨w.heap.size, 2, none⟩) hl1).trans (hS 2)
    have hW2 := hW1.below hb2
    have hA := add_any B o f b zs cn (m : Int) (some ⟨W.heap.size, 0, none⟩) m m (textW st) w2 hW2 (View.ofRow hown2 hT) (newAt_mk (by omega)) hT (Int.le_refl _) hc
    rw [← hz] at hA
    have hK := KeepW.of_below (hb1.trans (hb2.mono (by omega))) (show B ≤ w.heap.size by omega)
    clear hown2 hb2 hW1 hW2 hS hO hT hb1 hz
    go_wp2_with fail
    refine (hRm _).mono ?_
    rintro e w3 ⟨rfl, rfl⟩
    go_wp2_with fail
    refine hA.mono ?_
    rintro e w4 ⟨rfl, hk4, hW4⟩
    clear hA
    go_wp2
    go_ret
    exact ⟨rfl, hK.trans hk4, hW4⟩
  · have hO := fun w => ofText_large st w hs h (by omega)
    have e1 : putL cn ((st.size / 4 + 1 : Nat) : Int) zs (textW st) = putL cn ((st.size / 4 + 1 : Nat) : Int) zs [] := by
      rw [putL, putL, if_neg (by omega), if_neg (by omega)]
    rw [e1]
    clear h e1
    obtain ⟨m, hm⟩ : ∃ m, m = st.size / 4 + 1 := ⟨_, rfl⟩
    rw [← hm] at hl hc ⊢
    simp only [← hm] at hRm
    have HM : Hid (m = st.size / 4 + 1) := hm
    clear hm
    obtain ⟨zs', hz⟩ : ∃ z, z = putL cn (m : Int) zs [] := ⟨_, rfl⟩
    rw [← hz]
    go_enter Tryz.func127, Tryz.ntmps127
    go_wp2_with fail
    generalize w.alloc (.cells #[.int .u8 kd, .int .u32 n, .string st] 61) = W at *
    refine (hO _).mono ?_
    rintro e w2 ⟨rfl, rfl⟩
    have hS2 : W.cell? ⟨w.heap.size, 2, none⟩ = some (.string st) := hS 2
    have hA := add_any B o f b zs cn (m : Int) none 0 0 [] W hW1 view_nil (fun _ _ _ e => by cases e) rfl (by omega) hc
    rw [← hz] at hA
    have hK := KeepW.of_below hb1 (show B ≤ w.heap.size by omega)
    clear hS hO hW1 hb1 hz
    go_wp2_with fail
    refine (hRm _).mono ?_
    rintro e w3 ⟨rfl, rfl⟩
    go_wp2_with fail
    refine hA.mono ?_
    rintro e w4 ⟨rfl, hk4, hW4⟩
    clear hA
    go_wp2
    go_ret
    exact ⟨rfl, hK.trans hk4, hW4⟩

theorem empty_size (s : ByteArray) : s.toList.isEmpty = (s.size == 0) := by
  rw [ByteArray.toList_eq, Bool.eq_iff_iff, List.isEmpty_iff, ← List.length_eq_zero_iff, Array.length_toList, beq_iff_eq]
  rfl

/-- Whether an argument may stand where a letter is. -/
def mayStandB (c : Int) (x : ArgT) : Bool := !(c == 0) && (x.1 == kindI c) && (if x.1 = 3 then x.2.1 == 0 else x.2.2.size == 0)

theorem mayStand_any (c : Int) (x : ArgT) (w : World) :
    Calls Tryz.prog 83 #[.int .u8 c, argV x] w fun e w' => e = .returned (.bool (mayStandB c x)) ∧ Below w.heap.size w w' := by
  obtain ⟨kd, n, st⟩ := x
  unfold argV
  have hb1 : Below w.heap.size w (w.alloc (.cells #[.int .u8 kd, .int .u32 n, .string st] 61)) := (Below.refl _ w).alloc (Nat.le_refl _) _
  have hl1 : w.heap.size < (w.alloc (.cells #[.int .u8 kd, .int .u32 n, .string st] 61)).heap.size := by simp
  have hS := fun i => (one_block (alloc_new w #[.int .u8 kd, .int .u32 n, .string st] 61)).1 i
  have hS0 := hS 0
  have hS1 := hS 1
  have hS2 := hS 2
  change _ = some (Value.int .u8 kd) at hS0
  change _ = some (Value.int .u32 n) at hS1
  change _ = some (Value.string st) at hS2
  clear hS
  by_cases h0 : c = 0
  · subst h0
    have e1 : mayStandB 0 (kd, n, st) = false := by simp [mayStandB]
    rw [e1]
    go_enter Tryz.func83, Tryz.ntmps83
    go_wp2_with fail
    generalize w.alloc (.cells #[.int .u8 kd, .int .u32 n, .string st] 61) = W at *
    refine wp_region_class (C := Below W.heap.size W) (by kernel_rfl) (by kernel_rfl) (below_drew W) ?_
    have hne : Nonempty (InC (Below W.heap.size W)) := ⟨⟨W, Below.refl _ _⟩⟩
    repeat (go_big_quiet_step (fail))
    refine wpQuiet_nil ?_
    rintro _ ⟨s, rfl⟩
    have hfin := hb1.trans (s.ok.mono (by omega))
    clear hne
    go_wp2
    go_ret
    exact ⟨rfl, hfin⟩
  · have h0' : (c == 0) = false := by simpa using h0
    by_cases h1 : kd = kindI c
    · have e1 : mayStandB c (kd, n, st) = (if kd = 3 then n == 0 else st.size == 0) := by simp [mayStandB, h0', h1]
      rw [e1]
      have hKc := fun w => kind_any c w
      rw [← h1] at hKc
      clear h1 e1
      by_cases k3 : kd = 3
      · subst k3
        rw [if_pos rfl]
        go_enter Tryz.func83, Tryz.ntmps83
        go_wp2_with fail
        generalize w.alloc (.cells #[.int .u8 3, .int .u32 n, .string st] 61) = W at *
        have a0 := fun s : InC (Below W.heap.size W) => s.cell (p := ⟨w.heap.size, 0, none⟩) hl1 hS0
        have hK := fun s : InC (Below W.heap.size W) => Calls.inC_same s (hKc s.w)
        refine wp_region_class (C := Below W.heap.size W) (by kernel_rfl) (by kernel_rfl) (below_drew W) ?_
        have hne : Nonempty (InC (Below W.heap.size W)) := ⟨⟨W, Below.refl _ _⟩⟩
        repeat (go_big_quiet_step ((go_at_call 126; exact hK _)))
        refine wpQuiet_nil ?_
        rintro _ ⟨s, rfl⟩
        have hfin := hb1.trans (s.ok.mono (by omega))
        have k0 := s.cell (p := ⟨w.heap.size, 0, none⟩) hl1 hS0
        have k1 := s.cell (p := ⟨w.heap.size, 1, none⟩) hl1 hS1
        have k2 := s.cell (p := ⟨w.heap.size, 2, none⟩) hl1 hS2
        clear hne hK a0 hS0 hS1 hS2 hKc
        go_wp2
        go_ret
        exact ⟨rfl, hfin⟩
      · rw [if_neg k3]
        go_enter Tryz.func83, Tryz.ntmps83
        go_wp2_with fail
        generalize w.alloc (.cells #[.int .u8 kd, .int .u32 n, .string st] 61) = W at *
        have a0 := fun s : InC (Below W.heap.size W) => s.cell (p := ⟨w.heap.size, 0, none⟩) hl1 hS0
        have hK := fun s : InC (Below W.heap.size W) => Calls.inC_same s (hKc s.w)
        refine wp_region_class (C := Below W.heap.size W) (by kernel_rfl) (by kernel_rfl) (below_drew W) ?_
        have hne : Nonempty (InC (Below W.heap.size W)) := ⟨⟨W, Below.refl _ _⟩⟩
        repeat (go_big_quiet_step ((go_at_call 126; exact hK _)))
        refine wpQuiet_nil ?_
        rintro _ ⟨s, rfl⟩
        have hfin := hb1.trans (s.ok.mono (by omega))
        have k0 := s.cell (p := ⟨w.heap.size, 0, none⟩) hl1 hS0
        have k1 := s.cell (p := ⟨w.heap.size, 1, none⟩) hl1 hS1
        have k2 := s.cell (p := ⟨w.heap.size, 2, none⟩) hl1 hS2
        clear hne hK a0 hS0 hS1 hS2 hKc
        go_wp2
        go_ret
        refine ⟨?_, hfin⟩
        show Ending.returned (Value.bool st.toList.isEmpty) = _
        rw [empty_size]
    · have e1 : mayStandB c (kd, n, st) = false := by simp [mayStandB, h0', h1]
      rw [e1]
      have h1' : (kd == kindI c) = false := by simpa using h1
      go_enter Tryz.func83, Tryz.ntmps83
      go_wp2_with fail
      generalize w.alloc (.cells #[.int .u8 kd, .int .u32 n, .string st] 61) = W at *
      have a0 := fun s : InC (Below W.heap.size W) => s.cell (p := ⟨w.heap.size, 0, none⟩) hl1 hS0
      have hK := fun s : InC (Below W.heap.size W) => Calls.inC_same s (kind_any c s.w)
      generalize kindI c = kc at *
      refine wp_region_class (C := Below W.heap.size W) (by kernel_rfl) (by kernel_rfl) (below_drew W) ?_
      have hne : Nonempty (InC (Below W.heap.size W)) := ⟨⟨W, Below.refl _ _⟩⟩
      repeat (go_big_quiet_step ((go_at_call 126; exact hK _)))
      refine wpQuiet_nil ?_
      rintro _ ⟨s, rfl⟩
      have hfin := hb1.trans (s.ok.mono (by omega))
      clear hne hK a0
      go_wp2
      go_ret
      exact ⟨rfl, hfin⟩

theorem putter_any (B : Nat) (k : Int) (w : World) :
    Calls Tryz.prog 84 #[.pointer (some ⟨B, 0, none⟩), .int .u8 k] w fun e w' => e = .returned (if k = 3 then .func (.func 127) #[.pointer (some ⟨B, 0, none⟩)] #[] else .func (.func 125) #[.pointer (some ⟨B, 0, none⟩)] #[]) ∧ w = w' := by
  by_cases h : k = 3
  · subst h
    rw [if_pos rfl]
    go_enter Tryz.func84, Tryz.ntmps84
    go_wp2
    go_ret
    exact ⟨rfl, rfl⟩
  · rw [if_neg h]
    go_enter Tryz.func84, Tryz.ntmps84
    go_wp2
    go_ret
    exact ⟨rfl, rfl⟩

end Go.Proofs.YtonhnflilfjkbaaGreatDoor

/-
  Plain facts on instructions as words: what is wrong with an instruction, and its words.
-/
namespace Go.Proofs.YtonhnflilfjkbaaGreatDoor
open Go.RowKit
set_option linter.unusedVariables false
set_option linter.unusedSimpArgs false

/-- Is a byte of a text zero? -/
def nulS (s : ByteArray) : Bool := s.data.toList.any (· == 0)
theorem nulS_false {s : ByteArray} : nulS s = false ↔ NoNul s := by
  unfold nulS NoNul
  rw [List.any_eq_false]
  constructor
  · intro h k hk
    rw [nth_strI s k hk]
    intro e
    have h1 : s[k].toNat = 0 := by omega
    have h2 : s.data.toList[k]'(by rw [size_list]; exact hk) = 0 := UInt8.toNat_inj.1 h1
    exact h _ (List.getElem_mem (by rw [size_list]; exact hk)) (by simp [h2])
  · intro h x hx hx0
    obtain ⟨k, hk, rfl⟩ := List.mem_iff_getElem.1 hx
    have hk' : k < s.size := by rw [← size_list]; exact hk
    apply h k hk'
    rw [nth_strI s k hk']
    have e : s[k] = s.data.toList[k] := rfl
    rw [e, eq_of_beq hx0]
    rfl
theorem nulS_true {s : ByteArray} (h : nulS s = true) : ∃ k, k < s.size ∧ nth (strI s) k = 0 := by
  apply Classical.byContradiction
  intro hn
  have : NoNul s := fun k hk e => hn ⟨k, hk, e⟩
  rw [← nulS_false] at this
  rw [this] at h
  cases h
theorem nulS_empty : nulS ⟨#[]⟩ = false := rfl
theorem size_zero {s : ByteArray} (h : s.size = 0) : s = ⟨#[]⟩ := by
  have : s.data = #[] := Array.eq_empty_of_size_eq_zero h
  cases s; simp_all

/-- What is wrong with an argument. -/
def wrongA (c : Int) (x : ArgT) (b : Int) : Int := if mayStandB c x = false then 42 else if x.1 = 3 then (if nulS x.2.2 then 13 else 0) else faultW c x.2.1 b

/-- The first wrong argument's error. -/
def wrongL (f : Frm) (b : Int) : Nat → List ArgT → Int
  | _, [] => 0
  | k, x :: l => if wrongA (letterI f k) x b = 0 then wrongL f b (k + 1) l else wrongA (letterI f k) x b

/-- An argument's words. -/
def wordsA (x : ArgT) : List Int := if x.1 = 3 then textW x.2.2 else [x.2.1]
theorem wordsA_len (x : ArgT) : (wordsA x).length = if x.1 = 3 then x.2.2.size / 4 + 1 else 1 := by
  unfold wordsA
  split
  · exact textW_len _
  · rfl
def wordsL (l : List ArgT) : List Int := l.flatMap wordsA
/-- The ids ahead of the arguments. -/
def headW (f : Frm) (t r : Int) : List Int := (if f.2.1 then [t] else []) ++ (if f.2.2.1 then [r] else [])
/-- An instruction's words. -/
def rawL (f : Frm) (x : InstT) : List Int := headW f x.2.1 x.2.2.1 ++ wordsL x.2.2.2

/-- What is wrong with an instruction, its form being f. -/
def faultI (f : Frm) (x : InstT) (b : Int) : Int :=
  if idE f.2.1 x.2.1 b 40 ≠ 0 then idE f.2.1 x.2.1 b 40
  else if idE f.2.2.1 x.2.2.1 b 41 ≠ 0 then idE f.2.2.1 x.2.2.1 b 41
  else if wrongL f b 0 x.2.2.2 ≠ 0 then wrongL f b 0 x.2.2.2
  else if wholeN f x.2.2.2.length = false then 42
  else if 65535 < 1 + (rawL f x).length then 25 else 0
/-- What Raw answers: its error. -/
def rawE (x : InstT) (b : Int) : Int := if (lookF refT x.1).2 then faultI (lookF refT x.1).1 x b else 30
/-- Its words. -/
def rawWs (x : InstT) (b : Int) : List Int := if rawE x b = 0 then rawL (lookF refT x.1).1 x else []

theorem wrongL_zero {f : Frm} {b : Int} : ∀ {l : List ArgT} {k : Nat}, wrongL f b k l = 0 → ∀ j, j < l.length → wrongA (letterI f ((k + j : Nat) : Int)) (nthA l j) b = 0
  | [], _, _, j, hj => by simp at hj
  | x :: l, k, h, j, hj => by
    rw [wrongL] at h
    by_cases h0 : wrongA (letterI f k) x b = 0
    · rw [if_pos h0] at h
      cases j with
      | zero => exact h0
      | succ j =>
        have := wrongL_zero h j (by simpa using hj)
        rw [show k + (j + 1) = k + 1 + j by omega]
        exact this
    · rw [if_neg h0] at h; exact absurd h h0
/-- The first that is wrong. -/
theorem wrongL_first {f : Frm} {b : Int} : ∀ {l : List ArgT} {k j : Nat}, j < l.length → (∀ i, i < j → wrongA (letterI f ((k + i : Nat) : Int)) (nthA l i) b = 0) → wrongA (letterI f ((k + j : Nat) : Int)) (nthA l j) b ≠ 0 → wrongL f b k l = wrongA (letterI f ((k + j : Nat) : Int)) (nthA l j) b
  | [], _, j, hj, _, _ => by simp at hj
  | x :: l, k, 0, _, _, h => by
    rw [wrongL, if_neg (show ¬ wrongA (letterI f k) x b = 0 from h)]; rfl
  | x :: l, k, j + 1, hj, h0, h => by
    have h1 : wrongA (letterI f k) x b = 0 := h0 0 (by omega)
    rw [wrongL, if_pos h1]
    have e := wrongL_first (f := f) (b := b) (l := l) (k := k + 1) (j := j) (by simpa using hj) (fun i hi => by have := h0 (i + 1) (by omega); rw [show k + (i + 1) = k + 1 + i by omega] at this; exact this) (by rw [show k + (j + 1) = k + 1 + j by omega] at h; exact h)
    rw [e, show k + (j + 1) = k + 1 + j by omega]; rfl
theorem wrongL_none {f : Frm} {b : Int} : ∀ {l : List ArgT} {k : Nat}, (∀ i, i < l.length → wrongA (letterI f ((k + i : Nat) : Int)) (nthA l i) b = 0) → wrongL f b k l = 0
  | [], _, _ => rfl
  | x :: l, k, h => by
    have h1 : wrongA (letterI f k) x b = 0 := h 0 (by simp)
    rw [wrongL, if_pos h1]
    exact wrongL_none fun i hi => by have := h (i + 1) (by simpa using hi); rw [show k + (i + 1) = k + 1 + i by omega] at this; exact this

/-- An argument that is right stands, and has its letter's kind. -/
theorem wrongA_kind {c : Int} {x : ArgT} {b : Int} (h : wrongA c x b = 0) : c ≠ 0 ∧ x.1 = kindI c := by
  unfold wrongA at h
  split at h
  · cases h
  · rename_i hm
    simp [mayStandB] at hm
    exact ⟨hm.1, hm.2.1⟩

/-- Where all arguments stand, the kinds fit just if they are whole. -/
theorem fits_whole {f : Frm} {l : List ArgT} (h : ∀ i, i < l.length → letterI f (i : Int) ≠ 0 ∧ (nthA l i).1 = kindI (letterI f (i : Int))) : (fitsI true f (kindsL l)).2 = wholeN f l.length := by
  have hl : (kindsL l).length = l.length := by simp [kindsL]
  have hb : ∀ j, j < l.length → badK f (kindsL l) j = false := fun j hj => by
    obtain ⟨h1, h2⟩ := h j hj
    simp [badK, h1, kindsL_nth l j hj, h2]
  unfold fitsI
  rw [if_neg (by simp), hl, range_not _ hb]
  have e : (if wholeB f l.length = true then ((0 : Int), true) else ((l.length : Int), false)).2 = wholeB f l.length := by split <;> simp_all
  simp only [e]
  unfold wholeB wholeN
  rw [Bool.eq_iff_iff]
  by_cases h1 : (l.length : Int) < f.2.2.2.1.size
  · rw [if_pos h1]
    simp; constructor
    · omega
    · intro h2; omega
  · rw [if_neg h1]
    by_cases h2 : f.2.2.2.2.1.size = 0
    · rw [if_pos h2]
      have h3 : ¬ f.2.2.2.1.size < l.length := fun h3 => rest_of_letters (f := f) (zs := kindsL l) (fun j hj => hb j (by rw [← hl]; exact hj)) (by rw [hl]; exact h3) h2
      simp; omega
    · rw [if_neg h2]
      simp
      constructor
      · rintro (h3 | ⟨_, h3⟩)
        · rw [show (l.length : Int) - f.2.2.2.1.size = 0 by omega]; simp
        · exact h3
      · intro h3
        by_cases h4 : (l.length : Int) - f.2.2.2.1.size = 0
        · exact .inl h4
        · exact .inr ⟨by omega, h3⟩

/-- No row of Rest has a text. -/
def noText (f : Frm) : Bool := f.2.2.2.2.1.data.toList.all (fun x => x != 115)
theorem refT_noText : refT.all (fun p => noText p.2 && shortF p.2) = true := by decide +kernel
theorem look_noText (n : Int) : noText (lookF refT n).1 = true ∧ shortF (lookF refT n).1 = true := by
  by_cases h : (lookF refT n).2 = true
  · have := (List.all_eq_true.1 refT_noText) _ (lookF_true h)
    simpa using this
  · rw [(lookF_false (by simpa using h)).1]; exact ⟨rfl, rfl⟩
theorem text_fixed {f : Frm} (hf : noText f = true) {k : Nat} (h : kindI (letterI f (k : Int)) = 3) : k < f.2.2.2.1.size := by
  apply Classical.byContradiction
  intro hn
  have hk : kindI 0 ≠ 3 := by decide
  unfold letterI at h
  rw [if_neg (by omega), if_neg (by omega)] at h
  split at h
  · rename_i hm
    generalize hj : (((k : Int) - f.2.2.2.1.size) % f.2.2.2.2.1.size).toNat = j at h
    have hlt : j < f.2.2.2.2.1.size := by
      unfold mayB at hm
      by_cases h0 : f.2.2.2.2.1.size = 0
      · rw [if_pos h0] at hm; cases hm
      · have := Int.emod_lt_of_pos ((k : Int) - f.2.2.2.1.size) (show (0 : Int) < f.2.2.2.2.1.size by omega)
        have := Int.emod_nonneg ((k : Int) - f.2.2.2.1.size) (show (f.2.2.2.2.1.size : Int) ≠ 0 by omega)
        omega
    have h1 : sgn f.2.2.2.2.1 j = 115 := by
      unfold kindI at h
      split at h
      · cases h
      · split at h
        · cases h
        · split at h
          · assumption
          · split at h <;> cases h
    have hl : j < f.2.2.2.2.1.data.toList.length := by rw [size_list]; exact hlt
    have h2 := (List.all_eq_true.1 hf) (f.2.2.2.2.1.data.toList[j]) (List.getElem_mem hl)
    simp only [bne_iff_ne, ne_eq] at h2
    apply h2
    have h3 : (f.2.2.2.2.1.data.toList[j]).toNat = 115 := by
      unfold sgn at h1
      rw [List.getD, List.getElem?_eq_getElem hl] at h1
      simp only [Option.getD_some] at h1
      omega
    exact UInt8.toNat_inj.1 h3
  · exact hk h

theorem wordsL_take (l : List ArgT) (k : Nat) (h : k < l.length) : wordsL (l.take (k + 1)) = wordsL (l.take k) ++ wordsA (nthA l k) := by
  unfold wordsL
  rw [List.take_add_one, List.getElem?_eq_getElem h, nthA_lt _ _ h, Option.toList_some, List.flatMap_append]
  simp

end Go.Proofs.YtonhnflilfjkbaaGreatDoor

/-
  The text at the front of words, as a function of the words.
-/
namespace Go.Proofs.YtonhnflilfjkbaaGreatDoor
open Go.RowKit

end Go.Proofs.YtonhnflilfjkbaaGreatDoor

/-
  The instruction that words say, as a function of the words.
-/
namespace Go.Proofs.YtonhnflilfjkbaaGreatDoor
open Go.RowKit
set_option linter.unusedVariables false
set_option linter.unusedSimpArgs false

end Go.Proofs.YtonhnflilfjkbaaGreatDoor

/-
  What byteAt of the words package returns, for every word and every place from 0 to 3.
-/
namespace Go.Proofs.YtonhnflilfjkbaaGreatDoor
open Go.RowKit
set_option maxRecDepth 10000

end Go.Proofs.YtonhnflilfjkbaaGreatDoor

/-
  What textEnd of the words package returns: where the first byte 0 lies, or that there is none.
-/
namespace Go.Proofs.YtonhnflilfjkbaaGreatDoor
open Go.RowKit
set_option maxRecDepth 10000

end Go.Proofs.YtonhnflilfjkbaaGreatDoor

/-
  What Join of the words package returns, for every list of words whose bytes take at most 2^47 - 4096: their bytes, in new memory.
-/
namespace Go.Proofs.YtonhnflilfjkbaaGreatDoor
open Go.RowKit
set_option maxRecDepth 10000

end Go.Proofs.YtonhnflilfjkbaaGreatDoor

/-
  What Text of the words package returns, for every list of words: its error, or the text at their front and how many words it takes.
-/
namespace Go.Proofs.YtonhnflilfjkbaaGreatDoor
open Go.RowKit
set_option maxRecDepth 10000

end Go.Proofs.YtonhnflilfjkbaaGreatDoor

/-
  What Text of the words package returns, as one function of the words.
-/
namespace Go.Proofs.YtonhnflilfjkbaaGreatDoor
open Go.RowKit

end Go.Proofs.YtonhnflilfjkbaaGreatDoor

/-
  What slices.Clone of words returns: the words in new memory; nothing that was there has turned.
-/
namespace Go.Proofs.YtonhnflilfjkbaaGreatDoor
open Go.RowKit
set_option maxRecDepth 10000

theorem Clone.info : (Tryz.prog.info? 22).map (fun i => (i.zero, i.size, i.bytes)) = some (some (.int .u32 0), 1, 4) := by kernel_rfl

end Go.Proofs.YtonhnflilfjkbaaGreatDoor

/-
  What Byte of the document's answer returns: the k-th byte of words, for every k of theirs.
-/
namespace Go.Proofs.YtonhnflilfjkbaaGreatDoor
open Go.RowKit
set_option maxRecDepth 10000

end Go.Proofs.YtonhnflilfjkbaaGreatDoor

/-
  What Text of the document's answer returns, for every list of words: its error, or the text at their front and how many words it takes.
-/
namespace Go.Proofs.YtonhnflilfjkbaaGreatDoor
open Go.RowKit

theorem RefText.info : (Tryz.prog.info? 5).map (fun i => (i.zero, i.size, i.bytes)) = some (some (.int .u8 0), 1, 1) := by kernel_rfl

end Go.Proofs.YtonhnflilfjkbaaGreatDoor

/-
  Text of the words package and of the document's answer are the same, whatever the words.
-/
namespace Go.Proofs.YtonhnflilfjkbaaGreatDoor
open Go.RowKit
set_option maxRecDepth 10000

end Go.Proofs.YtonhnflilfjkbaaGreatDoor

/-
  What a reader's calls At, Left and take do: what they answer, and where the reader stands then.
-/
namespace Go.Proofs.YtonhnflilfjkbaaGreatDoor
open Go.RowKit
set_option maxRecDepth 10000

/-- A reader of the words zs, of which p were taken. -/
structure Rdr (W0 w : World) (gr ga n cw p : Nat) (zs : List Int) : Prop where
  rd : Rd 200 W0 w gr (.slice (some ⟨ga, 0, none⟩) n cw) p
  view : View .u32 W0 (some ⟨ga, 0, none⟩) zs
  apart : ga ≠ gr
  len : zs.length = n
  le : p ≤ n
  room : n ≤ cw
  small : 4 * n ≤ 140737488351232
  within : Within 4294967296 zs

theorem Rdr.words {W0 w : World} {gr ga n cw p : Nat} {zs : List Int} (h : Rdr W0 w gr ga n cw p zs) : View .u32 w (some ⟨ga, 0, none⟩) zs :=
  h.rd.view h.view (fun b off s e => by simp at e; have := h.apart; omega)

theorem Rdr.below {W0 w w' : World} {gr ga n cw p : Nat} {zs : List Int} (h : Rdr W0 w gr ga n cw p zs) (hb : Below w.heap.size w w') : Rdr W0 w' gr ga n cw p zs :=
  ⟨h.rd.below hb, h.view, h.apart, h.len, h.le, h.room, h.small, h.within⟩

theorem Rdr.set {W0 w : World} {gr ga n cw p : Nat} {zs : List Int} (h : Rdr W0 w gr ga n cw p zs) (q : Nat) (u : Int) (hu : u = (q : Int)) (hq : q ≤ n) : Rdr W0 (w.setCell ⟨gr, 1, none⟩ (.int .i64 u)) gr ga n cw q zs :=
  ⟨h.rd.set q u hu, h.view, h.apart, h.len, hq, h.room, h.small, h.within⟩

theorem Rdr.drew {W0 w : World} {gr ga n cw p : Nat} {zs : List Int} (h : Rdr W0 w gr ga n cw p zs) (q : Nat) : Rdr W0 (w.drewN q) gr ga n cw p zs := h.below (bel_drewN (Below.refl _ _) q)

end Go.Proofs.YtonhnflilfjkbaaGreatDoor

/-
  What a reader's calls Word, Text and Take answer, and where the reader stands then.
-/
namespace Go.Proofs.YtonhnflilfjkbaaGreatDoor
open Go.RowKit
set_option maxRecDepth 10000

end Go.Proofs.YtonhnflilfjkbaaGreatDoor

/-
  What the methods ownId and arg of the package code's reader answer.
-/
namespace Go.Proofs.YtonhnflilfjkbaaGreatDoor
open Go.RowKit
set_option linter.unusedVariables false
set_option linter.unusedSimpArgs false
set_option maxRecDepth 10000

/-- A reader's cells. -/
def rdrC (o : Int) (f : Frm) (b : Int) (gr : Nat) : Array Value := #[.int .u16 o, .string f.1, .bool f.2.1, .bool f.2.2.1, .string f.2.2.2.1, .string f.2.2.2.2.1, .int .i64 f.2.2.2.2.2.1, .int .u8 f.2.2.2.2.2.2, .int .u32 b, .pointer (some ⟨gr, 0, none⟩)]

/-- A reader at R: its form, its bound, and its reader of words. -/
structure RdS (w : World) (R : Nat) (o : Int) (f : Frm) (b : Int) (gr ga n cw p : Nat) (zs : List Int) : Prop where
  box : w.heap[R]? = some (.cells (rdrC o f b gr) 166 (0, 0))
  ne : R ≠ gr
  rd : Rdr w w gr ga n cw p zs

theorem Rdr.rebase {W0 w : World} {gr ga n cw p : Nat} {zs : List Int} (h : Rdr W0 w gr ga n cw p zs) : Rdr w w gr ga n cw p zs :=
  ⟨⟨World.grownBy.refl _ _, h.rd.box⟩, h.words, h.apart, h.len, h.le, h.room, h.small, h.within⟩
theorem RdS.step {w w' : World} {R : Nat} {o : Int} {f : Frm} {b : Int} {gr ga n cw p q : Nat} {zs : List Int} (h : RdS w R o f b gr ga n cw p zs) (h' : Rdr w w' gr ga n cw q zs) : RdS w' R o f b gr ga n cw q zs :=
  ⟨(h'.rd.grown.block R (Array.getElem?_eq_some_iff.1 h.box).1 (fun e => h.ne (by cases e; rfl))).trans h.box, h.ne, h'.rebase⟩
theorem RdS.below {w w' : World} {R : Nat} {o : Int} {f : Frm} {b : Int} {gr ga n cw p : Nat} {zs : List Int} (h : RdS w R o f b gr ga n cw p zs) (hb : Below w.heap.size w w') : RdS w' R o f b gr ga n cw p zs :=
  ⟨(hb.block R (Array.getElem?_eq_some_iff.1 h.box).1).trans h.box, h.ne, (h.rd.below hb).rebase⟩
theorem RdS.cells {w : World} {R : Nat} {o : Int} {f : Frm} {b : Int} {gr ga n cw p : Nat} {zs : List Int} (h : RdS w R o f b gr ga n cw p zs) :
    w.cell? ⟨R, 0, none⟩ = some (.int .u16 o) ∧ w.cell? ⟨R, 2, none⟩ = some (.bool f.2.1) ∧ w.cell? ⟨R, 3, none⟩ = some (.bool f.2.2.1) ∧ w.cell? ⟨R, 8, none⟩ = some (.int .u32 b) ∧ w.cell? ⟨R, 9, none⟩ = some (.pointer (some ⟨gr, 0, none⟩)) := by
  obtain ⟨hc, _⟩ := one_block h.box
  exact ⟨hc 0, hc 2, hc 3, hc 8, hc 9⟩
theorem RdS.lt {w : World} {R : Nat} {o : Int} {f : Frm} {b : Int} {gr ga n cw p : Nat} {zs : List Int} (h : RdS w R o f b gr ga n cw p zs) : R < w.heap.size ∧ gr < w.heap.size :=
  ⟨(Array.getElem?_eq_some_iff.1 h.box).1, h.rd.rd.lt⟩

theorem RdS.keep {w w' : World} {R : Nat} {o : Int} {f : Frm} {b : Int} {gr ga n cw p : Nat} {zs : List Int} {B : Nat} (h : RdS w R o f b gr ga n cw p zs) (hb : Below B w w') (hR : R < B) (hg : gr < B) (ha : 0 < n → ga < B) : RdS w' R o f b gr ga n cw p zs := by
  refine ⟨(hb.block R hR).trans h.box, h.ne, ⟨⟨World.grownBy.refl _ _, (hb.block gr hg).trans h.rd.rd.box⟩, ?_, h.rd.apart, h.rd.len, h.rd.le, h.rd.room, h.rd.small, h.rd.within⟩⟩
  intro j hj
  obtain ⟨b', off, e, hlt, hc⟩ := h.rd.words j hj
  cases e
  exact ⟨ga, 0, rfl, Nat.lt_of_lt_of_le hlt hb.size, (hb.cell (p := ⟨ga, 0 + j, none⟩) (ha (by have := h.rd.len; omega))).trans hc⟩
theorem RdS.ga {w : World} {R : Nat} {o : Int} {f : Frm} {b : Int} {gr ga n cw p : Nat} {zs : List Int} (h : RdS w R o f b gr ga n cw p zs) (hn : 0 < n) : ga < w.heap.size := by
  obtain ⟨b', off, e, hlt, _⟩ := h.rd.words 0 (by rw [h.rd.len]; exact hn)
  cases e
  exact hlt

end Go.Proofs.YtonhnflilfjkbaaGreatDoor

/-
  What the method args of the package code's reader answers.
-/
namespace Go.Proofs.YtonhnflilfjkbaaGreatDoor
open Go.RowKit
set_option linter.unusedVariables false
set_option linter.unusedSimpArgs false
set_option maxRecDepth 10000

theorem flat_arg : ∀ (l : List ArgT) (k j : Nat), k < l.length → j < 3 → (l.flatMap argC)[k * 3 + j]? = (argC (nthA l k))[j]?
  | x :: l, 0, j, _, hj => by
    rw [List.flatMap_cons, Nat.zero_mul, Nat.zero_add, List.getElem?_append_left (by simp [argC]; omega)]; rfl
  | x :: l, k + 1, j, hk, hj => by
    rw [List.flatMap_cons, List.getElem?_append_right (by simp [argC]; omega)]
    have := flat_arg l k j (by simpa using hk) hj
    rw [show (k + 1) * 3 + j - (argC x).length = k * 3 + j by simp [argC]; omega]
    exact this
/-- An owned row of arguments can be read. -/
theorem argsV_own {w : World} {B T n cap : Nat} {a : Option Addr} {l : List ArgT} (h : w.ownsRow B T 3 (.slice a n cap) n (l.flatMap argC)) (hl : l.length = n) : ArgsV w a l := by
  intro j hj
  rcases h.2 with ⟨hv, hn⟩ | ⟨g, cap', cur, hv, _, hg, _⟩
  · omega
  · cases hv
    have c0 := h.cellAt (j * 3 + 0) (by omega)
    have c1 := h.cellAt (j * 3 + 1) (by omega)
    have c2 := h.cellAt (j * 3 + 2) (by omega)
    rw [flat_arg l j 0 hj (by omega)] at c0
    rw [flat_arg l j 1 hj (by omega)] at c1
    rw [flat_arg l j 2 hj (by omega)] at c2
    exact ⟨g, 0, rfl, (Array.getElem?_eq_some_iff.1 hg).1, by rw [Nat.zero_add]; exact c0, by rw [Nat.zero_add]; exact c1, by rw [Nat.zero_add]; exact c2⟩

theorem Rargs.info : (Tryz.prog.info? 61).map (fun i => (i.zero, i.size, i.bytes)) = some (some (.agg #[.int .u8 0, .int .u32 0, .string ⟨#[]⟩]), 3, 24) := by kernel_rfl

end Go.Proofs.YtonhnflilfjkbaaGreatDoor

/-
  A row of instructions while it is built, each with arguments in memory of its own.
-/
namespace Go.Proofs.YtonhnflilfjkbaaGreatDoor
open Go.RowKit
set_option linter.unusedVariables false

/-- The instructions from the k-th on lie each in memory of its own, from block lo on; the row lies elsewhere. -/
def OwnI (w : World) (lo : Nat) (a : Option Addr) (k : Nat) (rs : List InstT) : Prop :=
  ∀ j, k ≤ j → j < rs.length → ∃ b off aj cj nj, a = some ⟨b, off, none⟩ ∧ lo ≤ b ∧ b < w.heap.size ∧ w.cell? ⟨b, off + j * 4, none⟩ = some (.int .u16 (nthI rs j).1) ∧ w.cell? ⟨b, off + j * 4 + 1, none⟩ = some (.int .u32 (nthI rs j).2.1) ∧ w.cell? ⟨b, off + j * 4 + 2, none⟩ = some (.int .u32 (nthI rs j).2.2.1) ∧ w.cell? ⟨b, off + j * 4 + 3, none⟩ = some (.slice aj nj cj) ∧ (nthI rs j).2.2.2.length = nj ∧
    w.ownsRow lo 61 3 (.slice aj nj cj) nj ((nthI rs j).2.2.2.flatMap argC) ∧ Value.ownBlock (.slice aj nj cj) ≠ some b ∧
    ∀ i, k ≤ i → i < rs.length → i ≠ j → ∀ ai ci ni g, w.cell? ⟨b, off + i * 4 + 3, none⟩ = some (.slice ai ni ci) → Value.ownBlock (.slice ai ni ci) = some g → Value.ownBlock (.slice aj nj cj) ≠ some g

/-- What is written in one instruction's arguments leaves the later ones. -/
theorem OwnI.next {w w' : World} {lo k b off : Nat} {a : Option Addr} {rs : List InstT} {ak : Option Addr} {nk ck : Nat} (h : OwnI w lo a k rs) (ha : a = some ⟨b, off, none⟩) (hk : k < rs.length) (hc : w.cell? ⟨b, off + k * 4 + 3, none⟩ = some (.slice ak nk ck)) (hg : w.grownBy w' (Value.ownBlock (.slice ak nk ck))) : OwnI w' lo a (k + 1) rs := by
  obtain ⟨b0, off0, ak0, ck0, nk0, e0, _, _, _, _, _, hc0, _, _, hnb, _⟩ := h k (Nat.le_refl _) hk
  rw [ha] at e0
  simp at e0
  obtain ⟨rfl, rfl⟩ := e0
  rw [hc] at hc0
  simp at hc0
  obtain ⟨rfl, rfl, rfl⟩ := hc0
  have cell : ∀ o, w'.cell? ⟨b, o, none⟩ = w.cell? ⟨b, o, none⟩ := fun o => World.cell?_of_block (hg.block b (World.block_lt_of_cell? _ _ hc) (fun e => hnb e.symm))
  intro j hj hjl
  obtain ⟨b1, off1, aj, cj, nj, e1, hlo1, hb1, c1, d1, d2, c2, c3, c4, c5, c6⟩ := h j (by omega) hjl
  rw [ha] at e1
  simp at e1
  obtain ⟨rfl, rfl⟩ := e1
  refine ⟨b, off, aj, cj, nj, ha, hlo1, Nat.lt_of_lt_of_le hb1 hg.size, (cell _).trans c1, (cell _).trans d1, (cell _).trans d2, (cell _).trans c2, c3, own_grown c4 hg (fun g e => c6 k (Nat.le_refl _) hk (by omega) ak ck nk g hc e), c5, ?_⟩
  intro i hi hil hij ai ci ni g hci
  rw [cell] at hci
  exact c6 i (by omega) hil hij ai ci ni g hci

/-- What is written elsewhere leaves them all. -/
theorem OwnI.kept {w w' : World} {lo lo' k : Nat} {a : Option Addr} {rs : List InstT} {ob : Option Nat} (h : OwnI w lo a k rs) (hg : w.grownBy w' ob) (hob : ∀ g, ob = some g → g < lo) (hlo : lo' ≤ lo) : OwnI w' lo' a k rs := by
  intro j hj hjl
  obtain ⟨b, off, aj, cj, nj, e1, hlo1, hb1, c1, d1, d2, c2, c3, c4, c5, c6⟩ := h j hj hjl
  have hne : some b ≠ ob := fun e => by have := hob b e.symm; omega
  have cell : ∀ o, w'.cell? ⟨b, o, none⟩ = w.cell? ⟨b, o, none⟩ := fun o => World.cell?_of_block (hg.block b hb1 hne)
  have c4' := own_grown c4 hg (fun g e e2 => by have := (c4.lt g e2).1; have := hob g e; omega)
  refine ⟨b, off, aj, cj, nj, e1, Nat.le_trans hlo hlo1, Nat.lt_of_lt_of_le hb1 hg.size, (cell _).trans c1, (cell _).trans d1, (cell _).trans d2, (cell _).trans c2, c3, ⟨c4'.1, ?_⟩, c5, fun i hi hil hij ai ci ni g hci => by rw [cell] at hci; exact c6 i hi hil hij ai ci ni g hci⟩
  rcases c4'.2 with h0 | ⟨g, cap, cur, e, hb, rest⟩
  · exact .inl h0
  · exact .inr ⟨g, cap, cur, e, Nat.le_trans hlo hb, rest⟩
theorem OwnI.below {w w' : World} {lo k : Nat} {a : Option Addr} {rs : List InstT} (h : OwnI w lo a k rs) (hb : Below w.heap.size w w') : OwnI w' lo a k rs :=
  h.kept (ob := none) ⟨hb.os, hb.tape, hb.output, hb.size, fun k hk _ => hb.block k hk⟩ (fun g e => by cases e) (Nat.le_refl _)

theorem OwnI.view {w : World} {lo : Nat} {a : Option Addr} {rs : List InstT} (h : OwnI w lo a 0 rs) : InstsV w a rs := by
  intro j hj
  obtain ⟨b, off, aj, cj, nj, e, _, hb, c1, d1, d2, c2, c3, c4, _⟩ := h j (Nat.zero_le _) hj
  refine ⟨b, off, aj, cj, nj, e, hb, c1, d1, d2, c2, c3, argsV_own c4 c3, ?_⟩
  rcases c4.2 with ⟨e1, e2⟩ | ⟨g, c', cur, e1, _, _, e4, _⟩
  · omega
  · cases e1; exact e4

structure RowI (w : World) (lo : Nat) (ob : Option Nat) (rs : List InstT) (cs : List Value) : Prop where
  len : cs.length = rs.length * 4
  each : ∀ j, j < rs.length → ∃ aj cj nj, cs[j * 4]? = some (.int .u16 (nthI rs j).1) ∧ cs[j * 4 + 1]? = some (.int .u32 (nthI rs j).2.1) ∧ cs[j * 4 + 2]? = some (.int .u32 (nthI rs j).2.2.1) ∧ cs[j * 4 + 3]? = some (.slice aj nj cj) ∧ (nthI rs j).2.2.2.length = nj ∧
    w.ownsRow lo 61 3 (.slice aj nj cj) nj ((nthI rs j).2.2.2.flatMap argC) ∧ (∀ g, Value.ownBlock (.slice aj nj cj) = some g → ob ≠ some g) ∧
    ∀ i, i < rs.length → i ≠ j → ∀ ai ci ni g, cs[i * 4 + 3]? = some (.slice ai ni ci) → Value.ownBlock (.slice ai ni ci) = some g → Value.ownBlock (.slice aj nj cj) ≠ some g

theorem RowI.grown {w w' : World} {lo : Nat} {ob : Option Nat} {rs : List InstT} {cs : List Value} {row : Option Nat} (h : RowI w lo ob rs cs) (hg : w.grownBy w' row) (hr : Apartly w lo row) : RowI w' lo ob rs cs := by
  refine ⟨h.len, fun j hj => ?_⟩
  obtain ⟨aj, cj, nj, h1, d1, d2, h2, h3, h4, h5, h6⟩ := h.each j hj
  exact ⟨aj, cj, nj, h1, d1, d2, h2, h3, own_apartly h4 hg hr, h5, h6⟩
theorem RowI.below {w w' : World} {lo : Nat} {ob : Option Nat} {rs : List InstT} {cs : List Value} (h : RowI w lo ob rs cs) (hb : Below w.heap.size w w') : RowI w' lo ob rs cs :=
  h.grown (grown_of_below hb none) (fun g e => by cases e)

/-- An instruction more, whose arguments have been laid since w0. -/
theorem RowI.push {w0 w w' : World} {v : Value} {g' lo : Nat} {rs : List InstT} {cs : List Value} {x : InstT} {a : Option Addr} {n c : Nat}
    (h : RowI w0 lo v.ownBlock rs cs) (hb : Below w0.heap.size w0 w) (hs : w.ownsRow w0.heap.size 61 3 (.slice a n c) n (x.2.2.2.flatMap argC)) (hl : x.2.2.2.length = n) (hv : ∀ b, v.ownBlock = some b → b < w0.heap.size) (hlo : lo ≤ w0.heap.size)
    (hg : w.grownBy w' v.ownBlock) (hat : v.ownBlock = some g' ∨ g' = w.heap.size) : RowI w' lo (some g') (rs ++ [x]) (cs ++ [.int .u16 x.1, .int .u32 x.2.1, .int .u32 x.2.2.1, .slice a n c]) := by
  have hcl := h.len
  have hnew : ∀ g, Value.ownBlock (.slice a n c) = some g → w0.heap.size ≤ g ∧ g < w.heap.size := fun g e => hs.lt g e
  have hold : ∀ i, i < rs.length → ∀ ai ci ni g, cs[i * 4 + 3]? = some (.slice ai ni ci) → Value.ownBlock (.slice ai ni ci) = some g → g < w0.heap.size := fun i hi ai ci ni g hc e => by
    obtain ⟨aj, cj, nj, _, _, _, h2, _, h4, _⟩ := h.each i hi
    rw [hc] at h2
    cases h2
    exact (h4.lt g e).2
  have hown : ∀ {sv : Value} {m : Nat} {xs : List Value} {B : Nat}, w.ownsRow B 61 3 sv m xs → (∀ g, sv.ownBlock = some g → v.ownBlock ≠ some g) → w'.ownsRow B 61 3 sv m xs := fun h1 h2 => own_grown h1 hg (fun g e e2 => h2 g e2 e)
  have hne : ∀ g, g < w.heap.size → v.ownBlock ≠ some g → some g' ≠ some g := fun g h1 h2 e => by
    cases e
    rcases hat with h3 | h3
    · exact h2 h3
    · omega
  refine ⟨by simp [hcl]; omega, fun j hj => ?_⟩
  rw [List.length_append, List.length_singleton] at hj
  by_cases hjl : j < rs.length
  · obtain ⟨aj, cj, nj, h1, d1, d2, h2, h3, h4, h5, h6⟩ := h.each j hjl
    rw [nthI_lo _ _ _ hjl]
    refine ⟨aj, cj, nj, by rw [List.getElem?_append_left (by omega)]; exact h1, by rw [List.getElem?_append_left (by omega)]; exact d1, by rw [List.getElem?_append_left (by omega)]; exact d2, by rw [List.getElem?_append_left (by omega)]; exact h2, h3, hown (own_below h4 hb) h5, fun g e => hne g (by have := (h4.lt g e).2; have := hb.size; omega) (h5 g e), ?_⟩
    intro i hi hij ai ci ni g hci e
    rw [List.length_append, List.length_singleton] at hi
    by_cases hil : i < rs.length
    · rw [List.getElem?_append_left (by omega)] at hci
      exact h6 i hil hij ai ci ni g hci e
    · obtain rfl : i = rs.length := by omega
      rw [List.getElem?_append_right (by omega), show rs.length * 4 + 3 - cs.length = 3 by omega] at hci
      simp at hci
      obtain ⟨rfl, rfl, rfl⟩ := hci
      intro e2
      have h7 := (hnew g e).1
      have h8 := hold j hjl aj cj nj g h2 e2
      omega
  · obtain rfl : j = rs.length := by omega
    rw [nthI_hi]
    refine ⟨a, c, n, ?_, ?_, ?_, ?_, hl, ?_, fun g e => hne g (hnew g e).2 (fun e2 => by have := hv g e2; have := (hnew g e).1; omega), ?_⟩
    · rw [List.getElem?_append_right (by omega), show rs.length * 4 - cs.length = 0 by omega]; rfl
    · rw [List.getElem?_append_right (by omega), show rs.length * 4 + 1 - cs.length = 1 by omega]; rfl
    · rw [List.getElem?_append_right (by omega), show rs.length * 4 + 2 - cs.length = 2 by omega]; rfl
    · rw [List.getElem?_append_right (by omega), show rs.length * 4 + 3 - cs.length = 3 by omega]; rfl
    · refine hown ⟨hs.1, ?_⟩ (fun g e e2 => by have := hv g e2; have := (hnew g e).1; omega)
      rcases hs.2 with h0 | ⟨g, cap, cur, e, hb', rest⟩
      · exact .inl h0
      · exact .inr ⟨g, cap, cur, e, Nat.le_trans hlo hb', rest⟩
    · intro i hi hij ai ci ni g hci e e2
      rw [List.length_append, List.length_singleton] at hi
      have hil : i < rs.length := by omega
      rw [List.getElem?_append_left (by omega)] at hci
      have := hold i hil ai ci ni g hci e
      have := (hnew g e2).1
      omega

/-- The whole row is as 'OwnI' says. -/
theorem RowI.own {w : World} {T n cap lo : Nat} {a : Option Addr} {rs : List InstT} {cs : List Value} (h : RowI w lo (Value.ownBlock (.slice a n cap)) rs cs) (hown : w.ownsRow lo T 4 (.slice a n cap) n cs) (hl : rs.length = n) : OwnI w lo a 0 rs := by
  intro j _ hj
  rcases hown.2 with ⟨_, hn⟩ | ⟨g, cap', cur, hv, hb, hgg, _⟩
  · omega
  · cases hv
    obtain ⟨aj, cj, nj, h1, d1, d2, h2, h3, h4, h5, h6⟩ := h.each j hj
    have hcl := h.len
    have c1 := hown.cellAt (j * 4) (by omega)
    have e1 := hown.cellAt (j * 4 + 1) (by omega)
    have e2 := hown.cellAt (j * 4 + 2) (by omega)
    have c2 := hown.cellAt (j * 4 + 3) (by omega)
    rw [h1] at c1
    rw [d1] at e1
    rw [d2] at e2
    rw [h2] at c2
    refine ⟨g, 0, aj, cj, nj, rfl, hb, (Array.getElem?_eq_some_iff.1 hgg).1, by rw [Nat.zero_add]; exact c1, by rw [Nat.zero_add]; exact e1, by rw [Nat.zero_add]; exact e2, by rw [Nat.zero_add]; exact c2, h3, h4, fun e => h5 g e rfl, ?_⟩
    intro i _ hi hij ai ci ni g2 hci e
    have c3 := hown.cellAt (i * 4 + 3) (by omega)
    rw [Nat.zero_add, c3] at hci
    exact h6 i hi hij ai ci ni g2 hci e

end Go.Proofs.YtonhnflilfjkbaaGreatDoor

/-
  The small functions of frame: a first word parted and made, how many words an instruction has, whether a bound may be.
-/
namespace Go.Proofs.YtonhnflilfjkbaaGreatDoor
open Go.RowKit
set_option maxRecDepth 10000

theorem mayBeBound_any (x : Int) (w : World) (h0 : 0 ≤ x) (h1 : x < 4294967296) :
    Calls Tryz.prog 111 #[.int .u32 x] w fun e w' => e = .returned (.bool (!(decide (x = 0) || decide (65536 < x)))) ∧ w = w' := by
  go_enter Tryz.func111, Tryz.ntmps111
  go_wp2
  · go_ret
    refine ⟨?_, rfl⟩
    have hx : 1 ≤ x := by assumption
    show Ending.returned (.bool (decide (x ≤ 65536))) = _
    congr 2
    by_cases h : x ≤ 65536
    · simp [h, show ¬ x = 0 by omega]
    · simp [h]; omega
  · go_ret
    refine ⟨?_, rfl⟩
    have hx : ¬ 1 ≤ x := by first | assumption | (have : x < 1 := by assumption
                                                  omega)
    obtain rfl : x = 0 := by omega
    rfl

theorem wordsOf_any (op : Int) (a : Option Addr) (n cap : Nat) (w : World) (hn : n ≤ 140737488351232) :
    Calls Tryz.prog 103 #[.agg #[.int .u16 op, .slice a n cap]] w fun e w' => e = .returned (.int .i64 ((n : Int) + 1)) ∧ w.alloc (.cells #[.int .u16 op, .slice a n cap] 54) = w' := by
  go_enter Tryz.func103, Tryz.ntmps103
  go_wp2
  go_ret
  exact ⟨ret_int (by omega), rfl⟩

theorem firstWord_any (op : Int) (a : Option Addr) (n cap : Nat) (w : World) (hn : n < 65535) (ho : 0 ≤ op) (ho2 : op < 65536) :
    Calls Tryz.prog 113 #[.agg #[.int .u16 op, .slice a n cap]] w fun e w' => e = .returned (.int .u32 (((n : Int) + 1) * 65536 + op)) ∧ Below w.heap.size w w' := by
  have hW := fun w => wordsOf_any op a n cap w (by omega)
  go_enter Tryz.func113, Tryz.ntmps113
  go_wp2_with fail
  go_region_with (go_at_call 103; refine (hW _).mono ?_; rintro e w' ⟨rfl, rfl⟩)
  all_goals go_wp2
  all_goals go_ret
  all_goals refine ⟨?_, (((Below.refl _ _).alloc (Nat.le_refl _) _).alloc (by simp) _).drew⟩
  all_goals
    show Ending.returned (.int .u32 (bits .or .u32 (IntKind.u32.wrap (IntKind.u32.wrap ((n : Int) + 1) * 65536)) (IntKind.u32.wrap op))) = _
    apply ret_int
    rw [show IntKind.u32.wrap ((n : Int) + 1) = (n : Int) + 1 by rw [IntKind.wrap_u32']; omega, show IntKind.u32.wrap (((n : Int) + 1) * 65536) = ((n : Int) + 1) * 65536 by rw [IntKind.wrap_u32']; omega, show IntKind.u32.wrap op = op by rw [IntKind.wrap_u32']; omega]
    exact or_high ((n : Int) + 1) op 16 (by omega) ho (by omega) (by omega)

end Go.Proofs.YtonhnflilfjkbaaGreatDoor

/-
  What Turned of the words package returns, for every word: its bytes the other way round.
-/
namespace Go.Proofs.YtonhnflilfjkbaaGreatDoor
open Go.RowKit
set_option maxRecDepth 10000

end Go.Proofs.YtonhnflilfjkbaaGreatDoor

/-
  What headFault of frame returns: what is wrong with a word of the head.
-/
namespace Go.Proofs.YtonhnflilfjkbaaGreatDoor
open Go.RowKit
set_option maxRecDepth 10000

end Go.Proofs.YtonhnflilfjkbaaGreatDoor

/-
  What readHead of frame returns: the first word of the head that lacks or is wrong, or the head.
-/
namespace Go.Proofs.YtonhnflilfjkbaaGreatDoor
open Go.RowKit
set_option maxRecDepth 10000

end Go.Proofs.YtonhnflilfjkbaaGreatDoor

/-
  What apart of frame returns: the instruction with words in new memory.
-/
namespace Go.Proofs.YtonhnflilfjkbaaGreatDoor
open Go.RowKit
set_option maxRecDepth 10000

end Go.Proofs.YtonhnflilfjkbaaGreatDoor

/-
  parts of frame, and what its iterator tells: the places of the instructions behind a head, with the instructions, whose words are those of the list itself.
-/
namespace Go.Proofs.YtonhnflilfjkbaaGreatDoor
open Go.RowKit Go.Shelf
attribute [local go_sem] Oper.semAt_some

end Go.Proofs.YtonhnflilfjkbaaGreatDoor

/-
  What Read of frame returns, for every list of words: its error and its place, or the head and the instructions, each with words in memory of its own.
-/
namespace Go.Proofs.YtonhnflilfjkbaaGreatDoor
open Go.RowKit Go.Shelf
attribute [local go_sem] Oper.semAt_some

end Go.Proofs.YtonhnflilfjkbaaGreatDoor

/-
  Each of frame: its iterator; what it tells, as values.
-/
namespace Go.Proofs.YtonhnflilfjkbaaGreatDoor
open Go.RowKit Go.Shelf
attribute [local go_sem] Oper.semAt_some

end Go.Proofs.YtonhnflilfjkbaaGreatDoor

/-
  What the iterator of parts tells, where a round may change boxes below as well: the list stays by its type.
-/
namespace Go.Proofs.YtonhnflilfjkbaaGreatDoor
open Go.RowKit Go.Shelf
attribute [local go_sem] Oper.semAt_some

end Go.Proofs.YtonhnflilfjkbaaGreatDoor

/-
  What the iterator of Each tells, where a round may change boxes below as well: the list stays by its type.
-/
namespace Go.Proofs.YtonhnflilfjkbaaGreatDoor
open Go.RowKit Go.Shelf
attribute [local go_sem] Oper.semAt_some

end Go.Proofs.YtonhnflilfjkbaaGreatDoor

/-
  What the method inst of the package code's reader answers.
-/
namespace Go.Proofs.YtonhnflilfjkbaaGreatDoor
open Go.RowKit
set_option linter.unusedVariables false
set_option linter.unusedSimpArgs false
set_option maxRecDepth 10000

end Go.Proofs.YtonhnflilfjkbaaGreatDoor

/-
  What New of the words package returns: a reader in a new block, its words in another one; nothing that was there has turned.
-/
namespace Go.Proofs.YtonhnflilfjkbaaGreatDoor
open Go.RowKit
set_option maxRecDepth 10000

end Go.Proofs.YtonhnflilfjkbaaGreatDoor

/-
  What Inst of the package code answers, for all words and every bound.
-/
namespace Go.Proofs.YtonhnflilfjkbaaGreatDoor
open Go.RowKit
set_option linter.unusedVariables false
set_option linter.unusedSimpArgs false
set_option maxRecDepth 100000

end Go.Proofs.YtonhnflilfjkbaaGreatDoor

/-
  Plain arithmetic for the layer of words: bytes to words and back is the bytes, words to bytes and back is the words.
-/
namespace Go.Proofs.YtonhnflilfjkbaaGreatDoor
open Go.RowKit

end Go.Proofs.YtonhnflilfjkbaaGreatDoor

/-
  Plain facts: a text's words, with whatever words behind them, are read as the text.
-/
namespace Go.Proofs.YtonhnflilfjkbaaGreatDoor
open Go.RowKit

end Go.Proofs.YtonhnflilfjkbaaGreatDoor
