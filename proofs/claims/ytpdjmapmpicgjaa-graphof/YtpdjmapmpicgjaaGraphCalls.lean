/-
  What a graph answers: Len, Next, Ahead, Reached, Order.
-/
import Derived.WalkSpells
import Derived.WalkMore
import Derived.OwnWalk
import Derived.BigGuard
import Derived.Laws.CopyOwn
import Derived.Test.YtpdjmapmpicgjaaProg
import Derived.Test.YtpdjmapmpicgjaaBoxes
import Derived.Test.YtpdjmapmpicgjaaGraphView
namespace Go.Proofs.Ytpdjmapmpicgjaa
open Go.RowKit
set_option linter.unusedVariables false
set_option linter.unusedSimpArgs false
set_option maxRecDepth 10000

theorem graphLen_nil (w : World) : Calls Try.prog 23 #[.pointer none] w fun e w' => e = .returned (.int .i64 0) ∧ w = w' := by
  go_enter Try.func23, Try.ntmps23
  go_wp2
  go_ret
  exact ⟨rfl, rfl⟩
theorem graphLen_any (w : World) (lo p : Nat) (N : List (List Int)) (h : GrV w lo p N) : Calls Try.prog 23 #[.pointer (some ⟨p, 0, none⟩)] w fun e w' => e = .returned (.int .i64 (N.length : Int)) ∧ w = w' := by
  obtain ⟨nv, av, m, cv, ov, h1, h2, _⟩ := h.mem
  obtain ⟨a, c, rfl, _, _, _⟩ := h2.head
  have c0 : w.cell? ⟨p, 0, none⟩ = some (.slice a N.length c) := by rw [h1.cell]; rfl
  clear h h1 h2
  go_enter Try.func23, Try.ntmps23
  go_wp2
  go_ret
  exact ⟨rfl, rfl⟩
/-- Whether a number is a node's. -/
def nodeB (n : Nat) (i : Int) : Bool := decide (0 ≤ i ∧ i < (n : Int))
set_option maxHeartbeats 1000000 in
theorem isNode_any (a : Option Addr) (n c : Nat) (i : Int) (w : World) : Calls Try.prog 49 #[.int .i64 i, .slice a n c] w fun e w' => e = .returned (.bool (nodeB n i)) ∧ w = w' := by
  by_cases h0 : (0 : Int) ≤ i
  · have h0' : decide ((0 : Int) ≤ i) = true := by simpa using h0
    have HR : Hid (nodeB n i = decide (i < (n : Int))) := by show _ = _; simp [nodeB, h0]
    go_enter Try.func49, Try.ntmps49
    go_wp2
    go_ret
    exact ⟨by rw [HR.out]; rfl, rfl⟩
  · have h0' : decide ((0 : Int) ≤ i) = false := by simpa using h0
    have HR : Hid (nodeB n i = false) := by show _ = _; simp [nodeB, h0]
    clear h0
    go_enter Try.func49, Try.ntmps49
    go_wp2
    go_ret
    exact ⟨by rw [HR.out]; rfl, rfl⟩
theorem graphHas_nil (i : Int) (w : World) : Calls Try.prog 44 #[.pointer none, .int .i64 i] w fun e w' => e = .returned (.bool false) ∧ w = w' := by
  go_enter Try.func44, Try.ntmps44
  go_wp2
  go_ret
  exact ⟨rfl, rfl⟩
theorem graphHas_any (i : Int) (w : World) (lo p : Nat) (N : List (List Int)) (h : GrV w lo p N) : Calls Try.prog 44 #[.pointer (some ⟨p, 0, none⟩), .int .i64 i] w fun e w' => e = .returned (.bool (nodeB N.length i)) ∧ w = w' := by
  obtain ⟨nv, av, m, cv, ov, h1, h2, _⟩ := h.mem
  obtain ⟨a, c, rfl, _, _, _⟩ := h2.head
  have c0 : w.cell? ⟨p, 0, none⟩ = some (.slice a N.length c) := by rw [h1.cell]; rfl
  have hI := isNode_any a N.length c i w
  clear h h1 h2
  go_enter Try.func44, Try.ntmps44
  go_wp2_with fail
  refine hI.mono ?_
  rintro e w' ⟨rfl, rfl⟩
  go_wp2
  go_ret
  exact ⟨rfl, rfl⟩

/-- The walk stops ahead of a copy. -/
def StopC (p : Prop) : Prop := p
theorem stopC {P : Program} {ops : Array Oper} {Q : Exit → Act → World → Prop} {a : Act} {w : World} {xs : Array Operand} {ts : Array TypeId} {d : Option Tmp} {ty : TypeId} {ps : String} {af : Array Edge} {g : Option (Nat × Bool)} {rest : List Oper} (h : StopC (wpList P ops Q ({ dst := d, op := .call { callee := .builtin .copy, args := xs, argTypes := ts }, type := ty, pos := ps, after := af, guard := g } :: rest) a w)) : wpList P ops Q ({ dst := d, op := .call { callee := .builtin .copy, args := xs, argTypes := ts }, type := ty, pos := ps, after := af, guard := g } :: rest) a w := h
theorem news_view {w : World} {b off : Nat} {zs : List Int} (hv : View .i64 w (some ⟨b, off, none⟩) zs) : ∀ j v, (zs.map (Value.int .i64))[j]? = some v → w.cell? ((⟨b, off, none⟩ : Addr).add j) = some v := by
  intro j v hj
  rw [List.getElem?_map] at hj
  have hjl : j < zs.length := by
    rcases Nat.lt_or_ge j zs.length with h | h
    · exact h
    · rw [List.getElem?_eq_none h] at hj; simp at hj
  obtain ⟨b2, o2, e2, _, hc⟩ := hv j hjl
  simp at e2
  obtain ⟨rfl, rfl⟩ := e2
  rw [Addr.add_lit, hc, ← hj, List.getElem?_eq_getElem hjl]
  simp [nth, List.getD, hjl]

set_option maxHeartbeats 2000000 in
theorem graphCopied_any (a : Option Addr) (n c : Nat) (zs : List Int) (w : World) (hv : View .i64 w a zs) (hl : zs.length = n) (hn : 8 * n ≤ 140737488351232) :
    Calls Try.prog 45 #[.slice a n c] w fun e w' => ∃ g, e = .returned (.slice (some ⟨g, 0, none⟩) n n) ∧ w'.ownsRow w.heap.size 3 1 (.slice (some ⟨g, 0, none⟩) n n) n (zs.map (Value.int .i64)) ∧ Below w.heap.size w w' := by
  obtain ⟨i0, hi, hz0, hz1, hz2⟩ := info_parts GrInts.info
  have HV := hide hv
  have HL := hide hl
  have HN := hide hn
  have hsz : (Try.prog.info? 3).map (·.size) = some 1 := by kernel_rfl
  clear hv hl hn
  go_enter Try.func45, Try.ntmps45
  go_wp2_with (at_make; refine wpList_make_full _ rfl _ _ 32 rfl w.heap.size 3 i0 (.int .i64 0) 1 Try.underlying32 hi hz0 hz1 _ _ _ _ n rfl rfl (by rfl) (by rfl) (by rw [hz2]; have := HN.out; omega) (by unfold maxLen; have := HN.out; omega) (Nat.le_refl _) ?_)
  intro w1 hown1 hgr1
  have hb1 : Below w.heap.size w w1 := (Below.refl _ w).grown hgr1 (Nat.le_refl _) (by simp)
  have hr1 : w1.ownsRow w.heap.size 3 1 (.slice (some ⟨w.heap.size, 0, none⟩) n n) n ((List.replicate n 0).map (Value.int .i64)) := by
    have := made_row (List.replicate n 0) (by simpa using hown1)
    rw [filled_zero] at this; exact this
  have hV1 := HV.out.below hb1
  have HO := hide hr1
  rcases hr1.2 with ⟨he, _⟩ | ⟨g, cap, cur, he, h2, h3, h4, h5, h6, h7⟩
  · cases he
  · cases he
    have hcur : cur.size = n := by omega
    have hct : (cur.toList.toArray : Array Value) = cur := by simp
    have HB1 := hide hb1
    have HV1 := hide hV1
    have H3 : Hid (w1.heap[w.heap.size]? = some (.cells cur.toList.toArray 3 (0, 0))) := by show _ = _; rw [hct]; exact h3
    have HCS := hide hcur
    clear hown1 hgr1 hb1 hr1 hV1 h2 h3 h4 h5 h6 h7 hct hcur
    go_wp2_with (with_reducible refine stopC ?_)
    unfold StopC
    refine wpList_copy_splice rfl (.tmp 7) (.tmp 8) 32 32 rfl 3 Try.underlying32 hsz (some ⟨w.heap.size, 0, none⟩) a n n n c rfl rfl w.heap.size 0 cur.toList 3 H3.out (zs.map (Value.int .i64)) (by rw [List.length_map, HL.out]; simp) (fun hp => ⟨rfl, by
      have hp' : 0 < zs.length := by simpa using hp
      obtain ⟨b, off, rfl, _, _⟩ := HV1.out 0 hp'
      exact ⟨_, rfl, news_view HV1.out⟩⟩) (by rw [List.length_map, HL.out, Array.length_toList, HCS.out]; omega) (fun v hv => by obtain ⟨y, _, rfl⟩ := List.mem_map.1 hv; rfl) w.heap.size w HB1.out (Nat.le_refl _) ?_
    intro w2 h2 hb2
    have HB2 := hide hb2
    clear hb2
    go_wp2_with fail
    go_ret
    refine ⟨_, rfl, ⟨by simp [HL.out], .inr ⟨w.heap.size, n, _, rfl, Nat.le_refl _, h2.out, Nat.le_refl _, by unfold maxLen; have := HN.out; omega, ?_, ?_⟩⟩, HB2.out⟩
    · simp [splice, HL.out, HCS.out]
    · simp [splice, HL.out, HCS.out]

end Go.Proofs.Ytpdjmapmpicgjaa
