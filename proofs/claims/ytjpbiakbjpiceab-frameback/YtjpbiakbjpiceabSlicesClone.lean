/-
  What slices.Clone of words returns: the words in new memory; nothing that was there has turned.
-/
import Derived.WalkSpells
import Derived.Test.YtjpbiakbjpiceabProg
import Derived.Test.YtjpbiakbjpiceabRdr
namespace Go.Proofs.Ytjpbiakbjpiceab
open Go.RowKit

theorem Clone.info : (Try.prog.info? 24).map (fun i => (i.zero, i.size, i.bytes)) = some (some (.int .u32 0), 1, 4) := by kernel_rfl

theorem clone_nil (w : World) :
    Calls Try.prog 40 #[.slice none 0 0] w fun e w' => e = .returned (.slice none 0 0) ∧ w = w' := by
  have hn := fun w => Lib.run_eql_slice_nil (P := Try.prog) w 47 24 none 0 0 0 0 Try.underlying47
  go_enter Try.func40, Try.ntmps40
  go_wp2
  go_ret
  exact ⟨rfl, rfl⟩

set_option maxHeartbeats 400000 in
theorem clone_some (x : Addr) (n cap : Nat) (zs : List Int) (w : World) (hv : View .u32 w (some x) zs) (hl : zs.length = n) (hn : 4 * n ≤ 140737488351232) :
    Calls Try.prog 40 #[.slice (some x) n cap] w fun e w' => ∃ g cx, e = .returned (.slice (some ⟨g, 0, none⟩) n cx) ∧
      w'.ownsRow w.heap.size 24 1 (.slice (some ⟨g, 0, none⟩) n cx) n (zs.map (Value.int .u32)) ∧ Below w.heap.size w w' := by
  obtain ⟨i0, hi, hz0, hz1, hz2⟩ := info_parts Clone.info
  have hnn := fun w => Lib.run_eql_slice_nil (P := Try.prog) w 47 24 (some x) n cap 0 0 Try.underlying47
  simp only [Option.isNone_some] at hnn
  have hbs : ∀ w, (Instr.buildSlice 47 0 #[]).run Try.prog w = .ok (.slice (some ⟨w.heap.size, 0, none⟩) 0 0) (w.alloc (.cells #[] 24)) := fun w => by kernel_rfl
  have hown0 : (w.alloc (.cells #[] 24)).ownsRow w.heap.size 24 1 (.slice (some ⟨w.heap.size, 0, none⟩) 0 0) 0 [] := World.ownsRow_lit w #[] 0 (Nat.le_refl _) (by unfold maxLen; omega) rfl
  have hnews : ∀ j u, (zs.map (Value.int .u32))[j]? = some u → (w.alloc (.cells #[] 24)).cell? (x.add j) = some u := by
    intro j u hj
    rw [List.getElem?_map] at hj
    have hjl : j < zs.length := by
      rcases Nat.lt_or_ge j zs.length with h | h
      · exact h
      · rw [List.getElem?_eq_none h] at hj; simp at hj
    obtain ⟨b, off, e, hb, hc⟩ := hv j hjl
    simp at e
    subst e
    rw [Addr.add_lit, World.cell?_alloc_past _ _ _ hb, hc, ← hj, List.getElem?_eq_getElem hjl]
    simp [nth, List.getD, hjl]
  have HL : Hid (zs.length = n) := hl
  clear hl hv
  go_enter Try.func40, Try.ntmps40
  go_wp2_with (at_builtin; refine wpList_append_own _ rfl (.tmp 5) (.tmp 6) 47 rfl w.heap.size 24 i0 (.int .u32 0) 1 4 Try.underlying47 hi hz0 hz1 hz2 rfl (by decide) _ _ _ rfl hown0 x n cap (zs.map (Value.int .u32)) rfl (by rw [List.length_map, HL.out]; omega) hnews (ints_oneCell .u32 zs) (by unfold maxLen; omega) (by omega) (by simp) ?_)
  intro v' w1 hown1 hgrow1 hnil1
  have hb1 : Below w.heap.size w w1 := ((Below.refl _ w).alloc (Nat.le_refl _) _).grown hgrow1 (by simp) (fun k hk => by simp [Value.ownBlock] at hk; omega)
  have hex : ∃ g cx, v' = .slice (some ⟨g, 0, none⟩) n cx := by
    rcases hown1.2 with ⟨h1, _⟩ | ⟨g, cx, cur, h1, _⟩
    · exact absurd h1 hnil1
    · exact ⟨g, cx, h1⟩
  obtain ⟨g, cx, hv'⟩ := hex
  rw [hv'] at hown1 ⊢
  clear hnil1 hgrow1 hnews hown0
  go_wp2
  go_ret
  exact ⟨g, cx, rfl, hown1, hb1⟩

end Go.Proofs.Ytjpbiakbjpiceab
