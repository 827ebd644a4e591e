/-
  The law LexTokens, for lines whose tokens keep to the memory's reach: a walk of its body with the contracts of what it calls.
-/
import Derived.WalkSpells
import Derived.WalkMore
import Derived.BigRegion
import Derived.Test.YtccllonkhklldabProg
import Derived.Test.YtccllonkhklldabToksMake
import Derived.Test.YtccllonkhklldabLawLexBack
import Derived.Test.YtccllonkhklldabLaw06Same
import Derived.Test.YtccllonkhklldabRef06Tokens
namespace Go.Proofs.Ytccllonkhklldab
open Go.RowKit
set_option maxRecDepth 10000
set_option linter.unusedVariables false
set_option linter.unusedSimpArgs false

theorem PartT.stay {w w' : World} {g n : Nat} {l : List TokT} (h : PartT w g n 0 l) (hb : Below w.heap.size w w') : PartT w' g n 0 l := by
  obtain ⟨cs, h1, h2⟩ := h.row
  exact ⟨⟨cs, (hb.block g (Array.getElem?_eq_some_iff.1 h1).1).trans h1, h2⟩, fun j hj => by omega⟩
theorem row_part {w : World} {B n c : Nat} {a : Option Addr} {xs : List Value} (l : List TokT) (h : w.ownsRow B 30 3 (.slice a n c) n xs) (hn : 0 < n) : ∃ g, a = some ⟨g, 0, none⟩ ∧ B ≤ g ∧ n ≤ c ∧ PartT w g c 0 l := by
  rcases h.2 with ⟨_, h0⟩ | ⟨g', cap', cur, h', h1, hg, h2, h3, hcs, _⟩
  · omega
  · simp only [Value.slice.injEq, true_and] at h'
    obtain ⟨rfl, rfl⟩ := h'
    exact ⟨g', rfl, h1, by omega, ⟨cur, hg, hcs⟩, fun j hj => by omega⟩
theorem nines (n k : Nat) (h : k < n) : nthT (List.replicate n ((9, ⟨#[]⟩, 0) : TokT)) k = (9, ⟨#[]⟩, 0) := by simp [nthT, List.getD, h]

set_option maxHeartbeats 4000000 in
theorem lexTokens_law (w : World) (s : ByteArray) (_ : s.size ≤ 140737488351232) (hu : s.size ≤ 1048576) :
    Calls Try.prog 3 #[.string s] w fun e w' => e = .returned (.bool true) ∧ Below w.heap.size w w' := by
  have hRT := fun wx => refTokens_any s wx hu
  have hT := fun wx => tokens_any s wx (by omega)
  obtain ⟨_, _, g3, _, _⟩ := toks_good (strI_within s) 0
  rw [strI_len] at g3
  obtain ⟨R, hR⟩ : ∃ R, R = toksP (strI s) 0 := ⟨_, rfl⟩
  rw [← hR] at hRT hT g3
  clear hR
  obtain ⟨l, er, at_⟩ := R
  simp only at hRT hT g3
  have HS := hid1 (fun a a' c c' wx (h : ToksV wx a l) (h' : ToksV wx a' l) => sameTokens_any l l.length a a' c c' wx rfl (by omega) h h')
  have HA := hid1 (fun wx => awake6_true wx)
  have HT := hid1 hT
  have hn : l.length ≤ 1048576 := by omega
  clear hT g3
  go_enter Try.func3, Try.ntmps3
  go_wp2_with fail
  refine (hRT _).mono ?_
  rintro e w1 ⟨v1, rfl, hrow1, hb1⟩
  obtain ⟨a1, c1, rfl, hv1⟩ := toks_own hrow1
  have hba := (Below.refl w1.heap.size w1).alloc (Nat.le_refl _) (.cells #[.int .i64 er, .int .i64 at_] 25)
  have hwB := hb1.trans (hba.mono hb1.size)
  have hvB := hv1.below hba
  have hspB := heap_alloc_new w1 (.cells #[.int .i64 er, .int .i64 at_] 25)
  have hlB : w1.heap.size < (w1.alloc (.cells #[.int .i64 er, .int .i64 at_] 25)).heap.size := by simp
  clear hRT hrow1 hv1 hb1 hba
  go_wp2_with fail
  generalize w1.alloc (.cells #[.int .i64 er, .int .i64 at_] 25) = wB at *
  refine (HT.out _).mono ?_
  rintro e w2 ⟨v2, rfl, hrow2, hb2⟩
  obtain ⟨a2, c2, rfl, hv2⟩ := toks_own hrow2
  have HP := hid1 (fun hn => row_part (List.replicate c2 ((9, ⟨#[]⟩, 0) : TokT)) hrow2 hn)
  have hba2 := (Below.refl w2.heap.size w2).alloc (Nat.le_refl _) (.cells #[.int .i64 er, .int .i64 at_] 25)
  have hB2 := hb2.trans (hba2.mono hb2.size)
  have hvx := hv2.below hba2
  have hvl := hvB.below hB2
  have hsp2 := (hb2.block _ hlB).trans hspB
  have t0 : w2.cell? ⟨w1.heap.size, 0, none⟩ = some (.int .i64 er) := by rw [Lib.cell_of_heap hsp2]; rfl
  have t1 : w2.cell? ⟨w1.heap.size, 1, none⟩ = some (.int .i64 at_) := by rw [Lib.cell_of_heap hsp2]; rfl
  have hl2 : w1.heap.size < w2.heap.size := Nat.lt_of_lt_of_le hlB hb2.size
  have HSAME := HS.out a2 a1 c2 c1 _ hvx hvl
  have HBA2 := hid1 hba2
  have HB2 := hid1 hB2
  clear hrow2 hv2 hvx hvl hb2 hba2 hB2
  go_wp2_with fail
  refine HSAME.mono ?_
  rintro e w3 ⟨rfl, qd, rfl⟩
  have hBW : Below wB.heap.size wB ((w2.alloc (.cells #[.int .i64 er, .int .i64 at_] 25)).drewN qd) := bel_drewN HB2.out qd
  have HPW : Hid (0 < l.length → ∃ g, a2 = some ⟨g, 0, none⟩ ∧ wB.heap.size ≤ g ∧ l.length ≤ c2 ∧ PartT ((w2.alloc (.cells #[.int .i64 er, .int .i64 at_] 25)).drewN qd) g c2 0 (List.replicate c2 ((9, ⟨#[]⟩, 0) : TokT))) := fun h => by
    obtain ⟨g, e1, e2, e3, e4⟩ := HP.out h
    exact ⟨g, e1, e2, e3, e4.stay (bel_drewN HBA2.out qd)⟩
  clear HSAME HP HBA2 HB2 t0 t1 hsp2 hl2
  generalize (w2.alloc (.cells #[.int .i64 er, .int .i64 at_] 25)).drewN qd = W3 at *
  go_wp2_with fail
  go_loopw [7] (fun i wr => ∃ k : Nat, k ≤ l.length ∧ i = .int .i64 k ∧ Below wB.heap.size wB wr ∧ Hid (0 < l.length → ∃ g, a2 = some ⟨g, 0, none⟩ ∧ wB.heap.size ≤ g ∧ l.length ≤ c2 ∧ PartT wr g c2 k (List.replicate c2 ((9, ⟨#[]⟩, 0) : TokT)))) (fun i _ => l.length - (intOf i).toNat)
  case atStart => exact ⟨0, Nat.zero_le _, rfl, hBW, HPW⟩
  case round =>
    obtain ⟨k, hk, rfl, hbel, HPk⟩ := hrel
    clear HPW hBW
    by_cases hlt : k < l.length
    · obtain ⟨g, rfl, hg, hc, hPk⟩ := HPk.out (by omega)
      obtain ⟨⟨y0, d0⟩, f0⟩ := hPk.can (k * 3) (by omega)
      obtain ⟨⟨y1, d1⟩, f1⟩ := hPk.can (k * 3 + 1) (by omega)
      obtain ⟨⟨y2, d2⟩, f2⟩ := hPk.can (k * 3 + 2) (by omega)
      have hst := hPk.store (by omega)
      rw [nines c2 k (by omega)] at hst
      have HP2 := hid1 hst
      have HB2 := hid1 (three_below hbel hg (k * 3) (k * 3 + 1) (k * 3 + 2) (.int .u8 9) (.string ⟨#[]⟩) (.int .i64 0))
      have hki : (k : Int) < (l.length : Int) := by omega
      have hk0 : (0 : Int) ≤ (k : Int) := by omega
      clear hPk hst HPk
      go_wp2_with fail
      go_roundw
      case rel => exact ⟨k + 1, by omega, by go_num, HB2.out, fun _ => ⟨g, rfl, hg, hc, HP2.out⟩⟩
      case measure => simp [intOf]; omega
    · obtain rfl : k = l.length := by omega
      have hspr := (hbel.block _ hlB).trans hspB
      have hvl := hvB.below hbel
      have hwr := hwB.trans (hbel.mono hwB.size)
      have hlr : w1.heap.size < wr.heap.size := Nat.lt_of_lt_of_le hlB hbel.size
      clear HPk hbel
      go_wp2_with fail
      refine (HT.out _).mono ?_
      rintro e w4 ⟨v4, rfl, hrow4, hb4⟩
      obtain ⟨a4, c4, rfl, hv4⟩ := toks_own hrow4
      have hba4 := (Below.refl w4.heap.size w4).alloc (Nat.le_refl _) (.cells #[.int .i64 er, .int .i64 at_] 25)
      have hB4 := hb4.trans (hba4.mono hb4.size)
      have hvy := hv4.below hba4
      have hvl4 := hvl.below hB4
      have hsp4 := (hb4.block _ hlr).trans hspr
      have t0 : w4.cell? ⟨w1.heap.size, 0, none⟩ = some (.int .i64 er) := by rw [Lib.cell_of_heap hsp4]; rfl
      have t1 : w4.cell? ⟨w1.heap.size, 1, none⟩ = some (.int .i64 at_) := by rw [Lib.cell_of_heap hsp4]; rfl
      have hl4 : w1.heap.size < w4.heap.size := Nat.lt_of_lt_of_le hlr hb4.size
      have hw4 := hwr.trans (hB4.mono hwr.size)
      have HSAME := HS.out a4 a1 c4 c1 _ hvy hvl4
      clear hrow4 hv4 hb4 hba4 hB4 hvy hvl4 hwr hvl
      go_wp2_with fail
      refine HSAME.mono ?_
      rintro e w5 ⟨rfl, qd, rfl⟩
      have hw5 := bel_drewN hw4 qd
      clear HSAME
      go_wp2_with fail
      refine (HA.out _).mono ?_
      rintro e w6 ⟨rfl, hb6⟩
      have HB6 := hid1 (hw5.trans (hb6.mono hw5.size))
      clear hb6 hw5 hw4
      go_wp2_with fail
      go_ret
      exact ⟨rfl, HB6.out⟩

end Go.Proofs.Ytccllonkhklldab
