/-
  The law LexWrites, for tokens whose line keeps to the memory's reach: a walk of its body with the contracts of what it calls.
-/
import Derived.WalkSpells
import Derived.WalkMore
import Derived.BigRegion
import Derived.Test.YtccllonkhklldabProg
import Derived.Test.YtccllonkhklldabToksMake
import Derived.Test.YtccllonkhklldabLaw06Awake
import Derived.Test.YtccllonkhklldabLaw06Same
import Derived.Test.YtccllonkhklldabRef06Write
namespace Go.Proofs.Ytccllonkhklldab
open Go.RowKit
set_option maxRecDepth 10000
set_option linter.unusedVariables false
set_option linter.unusedSimpArgs false

set_option maxHeartbeats 2000000 in
theorem lexWrites_law (w : World) (a : Option Addr) (n cap : Nat) (l : List TokT) (hl : l.length = n) (hv : ToksV w a l) (hin : ToksIn l) (hr : 32 * n ≤ 140737488351232) (hu : bulkT l + n ≤ 1048576) :
    Calls Try.prog 4 #[.slice a n cap] w fun e w' => e = .returned (.bool true) ∧ Below w.heap.size w w' := by
  have hR := fun a' c' wx (h : ToksV wx a' l) => refWrite_any a' n c' l wx h hl hin hu
  have hW := fun a' c' wx (h : ToksV wx a' l) => write_any a' n c' l wx h hl hin (by omega)
  have hS := fun a a' c c' wx (h : ToksV wx a l) (h' : ToksV wx a' l) => sameTokens_any l n a a' c c' wx hl (by omega) h h'
  have hA := fun wx => awake6_true wx
  have HR := hid1 hR
  have HW := hid1 hW
  have HS := hid1 hS
  have HA := hid1 hA
  have HL := hid1 hl
  have HV := hid1 hv
  obtain ⟨i0, hi, hz0, hz1, hz2⟩ := info_parts TokMake.info
  have hn : n ≤ 1048576 := by omega
  clear hR hW hS hA hl hv hin hr hu
  generalize strOfNums (wOut l) = q at *
  generalize wErr l = er at *
  go_enter Try.func4, Try.ntmps4
  go_wp2_with (at_make; refine wpList_make_full _ rfl _ _ 22 rfl w.heap.size 30 i0 (.agg #[.int .u8 0, .string ⟨#[]⟩, .int .i64 0]) 3 Try.underlying22 hi hz0 hz1 _ _ _ _ n rfl rfl (by omega) (by omega) (by rw [hz2]; omega) (by unfold maxLen; omega) (Nat.le_refl _) ?_)
  intro w4 hown4 hgr4
  have hP := PartT.made (l := l) hown4
  have hb4 : Below w.heap.size w w4 := (Below.refl _ w).grown hgr4 (Nat.le_refl _) (fun kk e => by cases e)
  clear hown4 hgr4
  go_wp2_with fail
  go_loopw [4] (fun i wr => ∃ k : Nat, k ≤ n ∧ i = .int .i64 k ∧ PartT wr w.heap.size n k l ∧ Below w.heap.size w wr) (fun i _ => n - (intOf i).toNat)
  case atStart => exact ⟨0, Nat.zero_le _, rfl, hP, hb4⟩
  case round =>
    obtain ⟨k, hk, rfl, hPk, hbel⟩ := hrel
    clear hP hb4
    by_cases hlt : k < n
    · obtain ⟨b, off, rfl, hblt, d0, d1, d2⟩ := HV.out k (by rw [HL.out]; exact hlt)
      have d0 := (hbel.cell (p := ⟨b, off + k * 3, none⟩) hblt).trans d0
      have d1 := (hbel.cell (p := ⟨b, off + k * 3 + 1, none⟩) hblt).trans d1
      have d2 := (hbel.cell (p := ⟨b, off + k * 3 + 2, none⟩) hblt).trans d2
      obtain ⟨⟨y0, c0⟩, f0⟩ := hPk.can (k * 3) (by omega)
      obtain ⟨⟨y1, c1⟩, f1⟩ := hPk.can (k * 3 + 1) (by omega)
      obtain ⟨⟨y2, c2⟩, f2⟩ := hPk.can (k * 3 + 2) (by omega)
      have HP2 := hid1 (hPk.store hlt)
      have HB2 := hid1 (three_below hbel (Nat.le_refl _) (k * 3) (k * 3 + 1) (k * 3 + 2) (.int .u8 (nthT l k).1) (.string (nthT l k).2.1) (.int .i64 (nthT l k).2.2))
      have hki : (k : Int) < (n : Int) := by omega
      have hk0 : (0 : Int) ≤ (k : Int) := by omega
      clear hPk hblt
      generalize (nthT l k).1 = t1 at *
      generalize (nthT l k).2.1 = t2 at *
      generalize (nthT l k).2.2 = t3 at *
      go_wp2_with fail
      go_roundw
      case rel => exact ⟨k + 1, by omega, by go_num, HP2.out, HB2.out⟩
      case measure => simp [intOf]; omega
    · obtain rfl : k = n := by omega
      have hvc := hPk.view HL.out
      have hva := HV.out.below hbel
      clear hPk
      go_wp2_with fail
      refine (HR.out a cap _ hva).mono ?_
      rintro e w5 ⟨rfl, hb5⟩
      have hvc5 := hvc.below hb5
      have hva5 := hva.below hb5
      have hbel5 := hbel.trans (hb5.mono hbel.size)
      clear hvc hva hb5 hbel
      go_wp2_with fail
      refine (HW.out _ _ _ hvc5).mono ?_
      rintro e w6 ⟨rfl, hb6⟩
      have hvc6 := hvc5.below hb6
      have hva6 := hva5.below hb6
      have hbel6 := hbel5.trans (hb6.mono hbel5.size)
      clear hvc5 hva5 hb6 hbel5
      go_wp2_with fail
      refine (HS.out _ _ _ _ _ hvc6 hva6).mono ?_
      rintro e w7 ⟨rfl, qd, rfl⟩
      have hbel7 := bel_drewN hbel6 qd
      clear hvc6 hva6 hbel6
      go_wp2_with fail
      refine (HA.out _).mono ?_
      rintro e w8 ⟨rfl, hb8⟩
      have HB8 := hid1 (hbel7.trans (hb8.mono hbel7.size))
      clear hb8 hbel7
      go_wp2_with fail
      go_ret
      exact ⟨rfl, HB8.out⟩

end Go.Proofs.Ytccllonkhklldab
