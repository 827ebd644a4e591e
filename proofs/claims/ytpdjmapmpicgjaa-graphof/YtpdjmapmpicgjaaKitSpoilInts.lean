/-
  SpoilInts of the kit writes over the numbers of a row of the call's own, and nothing else.
-/
import Derived.WalkSpells
import Derived.Test.YtpdjmapmpicgjaaProg
import Derived.Test.YtpdjmapmpicgjaaRdr
namespace Go.Proofs.Ytpdjmapmpicgjaa
open Go.RowKit
set_option maxRecDepth 10000

theorem spoilI_nil (a : Option Addr) (cap : Nat) (w : World) :
    Calls Try.prog 12 #[.slice a 0 cap] w fun e w' => e = .returned (.tuple #[]) ∧ w = w' := by
  go_enter Try.func12, Try.ntmps12
  go_wp2
  refine wp_loop_rounds 1 ?_
  rw [rounds_succ]
  go_wp2
  go_end0
  exact ⟨rfl, rfl⟩

set_option maxHeartbeats 400000 in
theorem spoilI_keep (g n cap B : Nat) (zs : List Int) (w : World) (hown : w.ownsRow B 3 1 (.slice (some ⟨g, 0, none⟩) n cap) n (zs.map (Value.int .i64))) (hl : zs.length = n) (hn : 8 * n ≤ 140737488351232) :
    Calls Try.prog 12 #[.slice (some ⟨g, 0, none⟩) n cap] w fun e w' => e = .returned (.tuple #[]) ∧ w.grownBy w' (some g) ∧ ∃ cs : List Int, cs.length = n ∧ w'.ownsRow B 3 1 (.slice (some ⟨g, 0, none⟩) n cap) n (cs.map (Value.int .i64)) := by
  go_enter Try.func12, Try.ntmps12
  go_wp2
  go_loopw [2] (fun i wr => ∃ (k : Nat) (cs : List Int), k ≤ n ∧ i = .int .i64 k ∧ cs.length = n ∧ wr.ownsRow B 3 1 (.slice (some ⟨g, 0, none⟩) n cap) n (cs.map (Value.int .i64)) ∧ w.grownBy wr (some g))
    (fun i _ => n - (intOf i).toNat)
  case atStart => exact ⟨0, zs, Nat.zero_le _, rfl, hl, hown, World.grownBy.refl _ _⟩
  case round =>
    obtain ⟨k, cs, hk, rfl, hcl, hownr, hgr⟩ := hrel
    have HCL : Hid (cs.length = n) := hcl
    clear hcl hown hl
    by_cases hlt : k < n
    · have hd : wr.cell? ⟨g, k, none⟩ = some (.int .i64 (nth cs k)) := by
        obtain ⟨b, off, e1, _, hc⟩ := View.ofRow hownr HCL.out k (by rw [HCL.out]; exact hlt)
        simp at e1
        obtain ⟨rfl, rfl⟩ := e1
        rw [Nat.zero_add] at hc
        exact hc
      have hf : wr.frozen? ⟨g, k, none⟩ = false := hownr.frozenAt _
      have hs := hownr.stored k (.int .i64 (-7777))
      rw [← List.map_set] at hs
      obtain ⟨hs1, hs2⟩ := hs
      generalize nth cs k = x at hd
      clear hownr
      go_wp2
      go_roundw
      case rel => exact ⟨k + 1, cs.set k (-7777), by omega, by go_num, by rw [List.length_set]; exact HCL.out, hs1, hgr.trans hs2⟩
      case measure => simp [intOf]; omega
    · go_wp2
      go_end0
      exact ⟨rfl, hgr, cs, HCL.out, hownr⟩

theorem spoilI_some (g n cap B : Nat) (zs : List Int) (w : World) (hown : w.ownsRow B 3 1 (.slice (some ⟨g, 0, none⟩) n cap) n (zs.map (Value.int .i64))) (hl : zs.length = n) (hn : 8 * n ≤ 140737488351232) :
    Calls Try.prog 12 #[.slice (some ⟨g, 0, none⟩) n cap] w fun e w' => e = .returned (.tuple #[]) ∧ w.grownBy w' (some g) :=
  (spoilI_keep g n cap B zs w hown hl hn).mono fun _ _ h => ⟨h.1, h.2.1⟩

/-- Of any row of the call's own. -/
theorem spoilI_own (v : Value) (n B : Nat) (zs : List Int) (w : World) (hown : w.ownsRow B 3 1 v n (zs.map (Value.int .i64))) (hl : zs.length = n) (hn : 8 * n ≤ 140737488351232) :
    Calls Try.prog 12 #[v] w fun e w' => e = .returned (.tuple #[]) ∧ w.grownBy w' v.ownBlock ∧ ∃ cs : List Int, cs.length = n ∧ w'.ownsRow B 3 1 v n (cs.map (Value.int .i64)) := by
  have hown0 := hown
  rcases hown0.2 with ⟨rfl, rfl⟩ | ⟨g, c, cur, rfl, _⟩
  · refine (spoilI_nil none 0 w).mono ?_
    rintro e w' ⟨he, rfl⟩
    exact ⟨he, World.grownBy.refl _ _, zs, hl, hown⟩
  · exact (spoilI_keep g n c B zs w hown hl hn).mono fun _ _ h => h

end Go.Proofs.Ytpdjmapmpicgjaa
