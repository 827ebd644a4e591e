/-
  raws of the laws of layer 2 answers true of two lists of instructions that are the same; head answers the words of a head.
-/
import Derived.WalkSpells
import Derived.Deep.QuietTactic
import Derived.BigQuiet
import Derived.Test.YtjpbiakbjpiceabRaws
import Derived.Test.YtjpbiakbjpiceabKitWords
namespace Go.Proofs.Ytjpbiakbjpiceab
open Go.RowKit

theorem quiet_words {a b : Option Addr} {n ca cb : Nat} {zs : List Int} {w : World} (ha : View .u32 w a zs) (hb : View .u32 w b zs) (hl : zs.length = n) (hn : n ≤ 140737488351232) (q : Nat) :
    Calls Try.prog 21 #[.slice a n ca, .slice b n cb] (w.drewN q) fun e w' => e = .returned (.bool true) ∧ ∃ m, w' = w.drewN m := by
  refine (words_true a b n ca cb zs (w.drewN q) (ha.drew q) (hb.drew q) hl hn).mono ?_
  rintro e w' ⟨he, m, hm⟩
  exact ⟨he, q + m, by rw [hm, World.drewN_drewN]⟩

theorem head_any (bound : Int) (w : World) :
    Calls Try.prog 36 #[.int .u32 bound] w fun e w' => e = .returned (.slice (some ⟨w.heap.size, 0, none⟩) 5 5) ∧ w' = w.alloc (.cells #[.int .u32 119734787, .int .u32 65536, .int .u32 0, .int .u32 bound, .int .u32 0] 24) := by
  have hmk : ∀ w, (Instr.makeSlice 47 (.int .i64 5) (.int .i64 5)).run Try.prog w = .ok (.slice (some ⟨w.heap.size, 0, none⟩) 5 5) (w.alloc (.cells #[.int .u32 0, .int .u32 0, .int .u32 0, .int .u32 0, .int .u32 0] 24)) := fun _ => by kernel_rfl
  go_enter Try.func36, Try.ntmps36
  go_wp2
  go_ret
  exact ⟨rfl, rfl⟩

end Go.Proofs.Ytjpbiakbjpiceab
