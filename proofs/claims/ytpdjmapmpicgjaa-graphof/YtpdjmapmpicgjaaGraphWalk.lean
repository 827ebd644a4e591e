/-
  walk of a graph: what is reached, and in which order.
-/
import Derived.WalkSpells
import Derived.WalkMore
import Derived.Laws.EntriesVeiled
import Derived.Test.YtpdjmapmpicgjaaProg
import Derived.Test.YtpdjmapmpicgjaaBoxes
import Derived.Test.YtpdjmapmpicgjaaGraphCome
import Derived.Test.YtpdjmapmpicgjaaGraphView
import Derived.Test.YtpdjmapmpicgjaaSlicesReverseI
namespace Go.Proofs.Ytpdjmapmpicgjaa
open Go.RowKit
set_option linter.unusedVariables false
set_option linter.unusedSimpArgs false
set_option maxRecDepth 10000

set_option maxHeartbeats 4000000 in
theorem graphWalk_any (w : World) (p lo : Nat) (nv av : Value) (N : List (List Int)) (hb : GrB w p nv av (fun _ => 0) (.slice none 0 0) (.slice none 0 0)) (hN : OwnL w lo nv N) (hE : Edges N.length N) (hn : N.length ≤ 4096) (h0 : 0 < N.length) (hD : ∀ j, (rowN N j).Nodup) :
    Calls Try.prog 52 #[.pointer (some ⟨p, 0, none⟩)] w fun e w' => e = .returned (.tuple #[]) ∧ w.grownBy w' (some p) ∧ ∃ m cv ov, GrB w' p nv av m cv ov ∧ Marked m (walkF N).1 ∧ w'.ownsRow w.heap.size 3 1 cv (walkF N).1.length ((walkF N).1.map (Value.int .i64)) ∧ w'.ownsRow w.heap.size 3 1 ov (walkF N).2.length ((walkF N).2.reverse.map (Value.int .i64)) := by
  have hQ := walkF_all N hE h0
  have hlen : (walkF N).2.length ≤ 4096 := by rw [hQ.perm.length_eq]; exact Nat.le_trans hQ.good.len hn
  have hpl := hb.lt
  have hba : Below w.heap.size w ((w.alloc (.cells #[.pointer (some ⟨p, 0, none⟩)] 28)).alloc (.cells #[.func (.func 61) #[] #[.pointer (some ⟨w.heap.size, 0, none⟩), .pointer (some ⟨w.heap.size + 1, 0, none⟩)]] 92)) := ((Below.refl _ _).alloc (Nat.le_refl _) _).alloc (by simp) _
  have hg0 : ((w.alloc (.cells #[.pointer (some ⟨p, 0, none⟩)] 28)).alloc (.cells #[.func (.func 61) #[] #[.pointer (some ⟨w.heap.size, 0, none⟩), .pointer (some ⟨w.heap.size + 1, 0, none⟩)]] 92)).heap[w.heap.size]? = some (.cells #[.pointer (some ⟨p, 0, none⟩)] 28 (0, 0)) := allocOld (allocNew _ _ rfl) _
  have hc0 : ((w.alloc (.cells #[.pointer (some ⟨p, 0, none⟩)] 28)).alloc (.cells #[.func (.func 61) #[] #[.pointer (some ⟨w.heap.size, 0, none⟩), .pointer (some ⟨w.heap.size + 1, 0, none⟩)]] 92)).heap[w.heap.size + 1]? = some (.cells #[.func (.func 61) #[] #[.pointer (some ⟨w.heap.size, 0, none⟩), .pointer (some ⟨w.heap.size + 1, 0, none⟩)]] 92 (0, 0)) := allocNew _ _ (by simp)
  have hC : WkC _ p w.heap.size (w.heap.size + 1) lo N.length nv N := ⟨⟨_, _, (hb.below hba).1⟩, hg0, hc0, by omega, by omega, hN.below hba, rfl, hn, hE, fun j => Nat.le_trans (nodup_len N.length _ (hD j) (fun x hx => hE j x hx)) hn⟩
  have hS0 : WkS ((w.alloc (.cells #[.pointer (some ⟨p, 0, none⟩)] 28)).alloc (.cells #[.func (.func 61) #[] #[.pointer (some ⟨w.heap.size, 0, none⟩), .pointer (some ⟨w.heap.size + 1, 0, none⟩)]] 92)) p nv av ((w.alloc (.cells #[.pointer (some ⟨p, 0, none⟩)] 28)).alloc (.cells #[.func (.func 61) #[] #[.pointer (some ⟨w.heap.size, 0, none⟩), .pointer (some ⟨w.heap.size + 1, 0, none⟩)]] 92)) (fun _ => 0) (.slice none 0 0) (.slice none 0 0) [] [] [] := ⟨hb.below hba, marked_nil, World.ownsRow_nil _ _ _ _, World.ownsRow_nil _ _ _ _, fun g e => (by cases e), World.grownBy.refl _ _, by simp; omega⟩
  have hcall := come_any _ p w.heap.size (w.heap.size + 1) lo N.length nv av N hC N.length 0 ([], []) _ _ _ _ ⟨by simp, fun x hx => by simp at hx⟩ (by simp) (by omega) (by omega) (by simp) (by simp) hS0
  have hwf : dfs N N.length 0 ([], []) = walkF N := rfl
  rw [hwf] at hcall
  have HL := hide hlen
  have HBA := hide hba
  have HC := hide hC
  clear hQ hlen hS0 hC hb hN hE hn h0 hD hwf hba
  generalize hWF : walkF N = wf at *
  clear hWF
  go_enter Try.func52, Try.ntmps52
  go_wp2_with fail
  refine hcall.mono ?_
  rintro e w2 ⟨rfl, m, cv, ov, hS⟩
  generalize hWW : ((w.alloc (.cells #[.pointer (some ⟨p, 0, none⟩)] 28)).alloc (.cells #[.func (.func 61) #[] #[.pointer (some ⟨w.heap.size, 0, none⟩), .pointer (some ⟨w.heap.size + 1, 0, none⟩)]] 92)) = WW at *
  have gbc := (oneCell (hS.old HC.out.gb HC.out.ngb)).1
  have c67 : w2.cell? ⟨p, 67, none⟩ = some ov := by rw [hS.blk.cell, gC_o]
  obtain ⟨a7, c7, rfl⟩ := own_shapeG hS.left
  have hrev := reverse_own _ _ wf.2 w2 hS.left (by have := HL.out; omega)
  have HS := hide hS
  clear hcall hS hg0 hc0 hWW
  go_wp2_with fail
  refine hrev.mono ?_
  rintro e w3 ⟨rfl, hg3, ho3⟩
  have hlw : w.heap.size ≤ WW.heap.size := HBA.out.size
  have hap := HS.out.apart
  have hob : ∀ g, Value.ownBlock (.slice a7 wf.2.length c7) = some g → WW.heap.size ≤ g := fun g e => (World.ownsRow.lt HS.out.left g e).1
  have hgw : w.grownBy w3 (some p) := by
    have h1 : w.grownBy WW (some p) := ⟨HBA.out.os, HBA.out.tape, HBA.out.output, HBA.out.size, fun k hk _ => HBA.out.block k hk⟩
    have h2 := h1.trans HS.out.grown
    exact h2.andThen hg3 (fun j e => .inl (by have := hob j e; omega))
  have hfin : GrB w3 p nv av m cv (.slice a7 wf.2.length c7) := HS.out.blk.other (hg3.block p HS.out.blk.lt (fun e => by have := hob p e.symm; have := HS.out.plt; omega))
  have hcv := own_grown HS.out.came hg3 (fun g e e2 => hap g e2 e)
  have HFIN := hide (And.intro hgw (And.intro hfin (And.intro HS.out.marked (And.intro (own_mono hcv hlw) (own_mono ho3 hlw)))))
  clear hrev hg3 ho3 hgw hfin hcv hap hob
  go_wp2_with fail
  go_end0
  exact ⟨rfl, HFIN.out.1, m, cv, _, HFIN.out.2.1, HFIN.out.2.2.1, HFIN.out.2.2.2.1, HFIN.out.2.2.2.2⟩

end Go.Proofs.Ytpdjmapmpicgjaa
