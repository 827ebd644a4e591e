/-
  raws of the laws of layer 2 answers true of two lists of instructions that are the same; head answers the words of a head.
-/
import Derived.WalkSpells
import Derived.Deep.QuietTactic
import Derived.BigQuiet
import Derived.Test.YtckpijgnkkjfkaaRaws
import Derived.Test.YtckpijgnkkjfkaaKitWords
namespace Go.Proofs.Ytckpijgnkkjfkaa
open Go.RowKit

theorem quiet_words {a b : Option Addr} {n ca cb : Nat} {zs : List Int} {w : World} (ha : View .u32 w a zs) (hb : View .u32 w b zs) (hl : zs.length = n) (hn : n ≤ 140737488351232) (q : Nat) :
    Calls Try.prog 13 #[.slice a n ca, .slice b n cb] (w.drewN q) fun e w' => e = .returned (.bool true) ∧ ∃ m, w' = w.drewN m := by
  refine (words_true a b n ca cb zs (w.drewN q) (ha.drew q) (hb.drew q) hl hn).mono ?_
  rintro e w' ⟨he, m, hm⟩
  exact ⟨he, q + m, by rw [hm, World.drewN_drewN]⟩

set_option maxHeartbeats 1000000 in
theorem raws_true (a b : Option Addr) (n ca cb : Nat) (rs : List (Int × List Int)) (w : World) (ha : RawsV w a rs) (hb : RawsV w b rs) (hok : RawsOk rs) (hl : rs.length = n) (hn : n ≤ 140737488351232) :
    Calls Try.prog 12 #[.slice a n ca, .slice b n cb] w fun e w' => e = .returned (.bool true) ∧ ∃ q, w' = w.drewN q := by
  have HL : Hid (rs.length = n) := hl
  clear hl
  go_enter Try.func12, Try.ntmps12
  go_wp2
  go_loopw [5] (fun i wr => ∃ k q : Nat, k ≤ n ∧ i = .int .i64 k ∧ wr = w.drewN q) (fun i _ => n - (intOf i).toNat)
  case atStart => exact ⟨0, 0, Nat.zero_le _, rfl, rfl⟩
  case round =>
    obtain ⟨k, q, hk, rfl, rfl⟩ := hrel
    by_cases hlt : k < n
    · obtain ⟨b1, o1, a1, c1, n1, rfl, _, p1, p2, p3, p4, _⟩ := ha k (by rw [HL.out]; exact hlt)
      obtain ⟨b2, o2, a2, c2, n2, rfl, _, q1, q2, q3, q4, _⟩ := hb k (by rw [HL.out]; exact hlt)
      obtain ⟨_, _, _, h4⟩ := hok k (by rw [HL.out]; exact hlt)
      obtain rfl : n1 = n2 := by omega
      have p1' : (w.drewN q).cell? ⟨b1, o1 + k * 2, none⟩ = _ := p1
      have p2' : (w.drewN q).cell? ⟨b1, o1 + k * 2 + 1, none⟩ = _ := p2
      have q1' : (w.drewN q).cell? ⟨b2, o2 + k * 2, none⟩ = _ := q1
      have q2' : (w.drewN q).cell? ⟨b2, o2 + k * 2 + 1, none⟩ = _ := q2
      have hQ := fun qq => quiet_words (ca := c1) (cb := c2) (p4.drew q) (q4.drew q) p3 (by omega) qq
      obtain ⟨W1, hW1⟩ : ∃ W1, W1 = w.drewN q := ⟨_, rfl⟩
      rw [← hW1] at p1' p2' q1' q2' hQ ⊢
      have HW1 : Hid (W1 = w.drewN q) := hW1
      generalize (nthR rs k).1 = x at p1' q1'
      have hki : (k : Int) < (n : Int) := by omega
      have hk0 : (0 : Int) ≤ (k : Int) := by omega
      clear ha hb p3 p4 q3 q4 h4 hW1 p1 p2 q1 q2
      go_wp2
      go_quiet ((go_at_call 13; exact hQ _))
      go_wp2
      go_roundw
      case rel => exact ⟨k + 1, q + _, by omega, by go_num, by rw [HW1.out, World.drewN_drewN]⟩
      case measure => simp [intOf]; omega
    · go_wp2
      go_ret
      exact ⟨rfl, q, rfl⟩

theorem head_any (bound : Int) (w : World) :
    Calls Try.prog 34 #[.int .u32 bound] w fun e w' => e = .returned (.slice (some ⟨w.heap.size, 0, none⟩) 5 5) ∧ w' = w.alloc (.cells #[.int .u32 119734787, .int .u32 65536, .int .u32 0, .int .u32 bound, .int .u32 0] 23) := by
  have hmk : ∀ w, (Instr.makeSlice 22 (.int .i64 5) (.int .i64 5)).run Try.prog w = .ok (.slice (some ⟨w.heap.size, 0, none⟩) 5 5) (w.alloc (.cells #[.int .u32 0, .int .u32 0, .int .u32 0, .int .u32 0, .int .u32 0] 23)) := fun _ => by kernel_rfl
  go_enter Try.func34, Try.ntmps34
  go_wp2
  go_ret
  exact ⟨rfl, rfl⟩

end Go.Proofs.Ytckpijgnkkjfkaa
