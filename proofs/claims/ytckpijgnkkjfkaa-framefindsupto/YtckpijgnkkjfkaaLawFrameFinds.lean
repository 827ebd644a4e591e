/-
  The law FrameFinds answers true, for every list of at most 1048576 words, every operation and every place.
-/
import Derived.WalkSpells
import Derived.BigRegion
import Derived.Deep.QuietTactic
import Derived.BigQuiet
import Derived.Test.YtckpijgnkkjfkaaLaw02Awake
import Derived.Test.YtckpijgnkkjfkaaFrameRead
import Derived.Test.YtckpijgnkkjfkaaFrameWrite
import Derived.Test.YtckpijgnkkjfkaaFrameFind
import Derived.Test.YtckpijgnkkjfkaaKitCopyWords
namespace Go.Proofs.Ytckpijgnkkjfkaa
open Go.RowKit

set_option maxRecDepth 100000 in
set_option maxHeartbeats 4000000 in
theorem frameFinds_true (w : World) (a : Option Addr) (n cap : Nat) (zs : List Int) (hl : zs.length = n) (hv : View .u32 w a zs) (hw : Within 4294967296 zs) (hr : 4 * n ≤ 140737488351232) (op : Int) (hop : (Lit.int .u16 op).wf = true) (from_ : Int) (hfr : (Lit.int .i64 from_).wf = true) (hu : n ≤ 1048576) :
    Calls Try.prog 6 #[.slice a n cap, .int .u16 op, .int .i64 from_] w fun e w' => e = .returned (.bool true) ∧ Below w.heap.size w w' := by
  have ho := bounds_u16 hop
  have hf := bounds_i64 hfr
  have HL : Hid (zs.length = n) := hl
  have hF0 := refFind_any a n cap zs w op from_ hv hl hw hu
  have HC : Hid (∀ wx, Below w.heap.size w wx → _) := fun wx (hb : Below w.heap.size w wx) => copyWords_any a n cap zs wx (hv.below hb) hl hr
  have HF1 : Hid (∀ b wx, View .u32 wx b zs → _) := fun b wx (h : View .u32 wx b zs) => findC b n n zs op from_ wx h hl hw hr (Nat.le_refl _) (by omega) (by omega) (by omega) (by omega)
  have HA : Hid (∀ wx, _) := fun wx => awake_true readC writeC wx
  generalize findAt zs op from_ = at_ at *
  generalize findIs zs op from_ = ok_ at *
  clear hv hl hw
  go_enter Try.func6, Try.ntmps6
  go_wp2_with fail
  refine hF0.mono ?_
  rintro e w1 ⟨rfl, hb1⟩
  clear hF0
  have s1 := hb1.size
  go_wp2_with fail
  refine (HC.out w1 hb1).mono ?_
  rintro e w2 ⟨rfl, hown2, hb2⟩
  have s2 := hb2.size
  have hv2 := View.ofRow hown2 HL.out
  have hbw2 : Below w.heap.size w w2 := hb1.trans (hb2.mono s1)
  clear hown2 hb2
  go_wp2_with fail
  refine (HF1.out _ w2 hv2).mono ?_
  rintro e w3 ⟨rfl, hb3⟩
  have hbw3 : Below w.heap.size w w3 := hbw2.trans (hb3.mono hbw2.size)
  clear hv2 hbw2 hb3 hb1
  go_wp2_with fail
  refine (HA.out _).mono ?_
  rintro e w4 ⟨rfl, hb4⟩
  have hfin : Below w.heap.size w w4 := hbw3.trans (hb4.mono hbw3.size)
  clear hbw3 hb4
  go_wp2
  go_ret
  exact ⟨rfl, hfin⟩

end Go.Proofs.Ytckpijgnkkjfkaa
