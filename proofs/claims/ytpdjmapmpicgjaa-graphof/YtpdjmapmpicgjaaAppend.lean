/-
  Words appended to a row of words whose room is full: where they come to lie. No condition but the bounds that each lemma names.
-/
import Derived.WalkKit
import Derived.Laws.Append
import Derived.Test.YtpdjmapmpicgjaaMath
namespace Go.Proofs.Ytpdjmapmpicgjaa
open Go.RowKit

/-- An append whose run is known. -/
theorem append_run {P : Program} (w : World) {ops : Array Oper} {rest : List Oper} {o : Oper} {a : Act} {Q : Exit → Act → World → Prop}
    (hg : o.guard = none) (s x : Operand) (t : TypeId) (hop : o.op = Op.call { callee := Callee.builtin Builtin.append, args := #[s, x], argTypes := #[t, t] })
    (v xv v' : Value) (w' : World) (hs : a.eval s = v) (hx : a.eval x = xv) (hrun : ∀ ty, (Builtin.append_ #[t, t] ty #[v, xv]).run P w = .ok v' w') (hK : wpList P ops Q rest (a.put o.dst v') w') :
    wpList P ops Q (o :: rest) a w := by
  refine wpList_plain hg fun K hK' => ?_
  unfold Oper.wp
  simp [execOp, hop, resolve, invoke, builtin, hs, hx, hrun, Result.andThen]
  exact hK' _ _ hK

/-- Nothing is appended. -/
theorem run_append_nothing {P : Program} (w : World) (t ty e : TypeId) (i : TypeInfo) (ht : P.underlying t = some (.slice e)) (hi : P.info? e = some i) (b : Option Addr) (n cap : Nat) (hn : n ≤ cap) (a : Option Addr) (c : Nat) :
    (Builtin.append_ #[t, t] ty #[.slice b n cap, .slice a 0 c]).run P w = .ok (.slice b n cap) w := by
  cases a with
  | none => cases b <;> simp [Builtin.append_, run_underlying ht, sizeOf, typeInfo, hi, Builtin.lenOf, hn, Builtin.firstCells, storeCells]
  | some a =>
    have hl : (loadCells a 0).run P w = .ok #[] w := run_loadCells_list (P := P) w a [] (fun j v hj => by simp at hj)
    cases b <;> simp [Builtin.append_, run_underlying ht, sizeOf, typeInfo, hi, Builtin.lenOf, hn, Builtin.firstCells, hl, storeCells]

theorem cap_fits (m n : Nat) (h : 0 < n) (hm : 4 * m ≤ 1048576) (hn : 4 * n ≤ 140737488351232) : Builtin.nextslicecap (m + n) m * 4 ≤ 281474976710656 := by
  have := nextslicecap_le (need := m + n) (old := m) (by omega)
  by_cases hbig : m + n > 2 * m
  · have : Builtin.nextslicecap (m + n) m = m + n := by unfold Builtin.nextslicecap; rw [if_pos hbig]
    rw [this]; omega
  · omega

/-- What a new block holds can be read. -/
theorem view_new {k : IntKind} {w : World} {arr : Array Value} {e : TypeId} {zs : List Int} (h : ∀ j, j < zs.length → arr[j]? = some (.int k (nth zs j))) : View k (w.alloc (.cells arr e)) (some ⟨w.heap.size, 0, none⟩) zs := by
  intro j hj
  refine ⟨w.heap.size, 0, rfl, by simp, ?_⟩
  rw [Nat.zero_add, World.cell?_alloc_new, h j hj]

/-- Words appended to a row that is full. -/
theorem append_full {P : Program} (w : World) (t e : TypeId) (i : TypeInfo) (z : Value) (ht : P.underlying t = some (.slice e)) (hi : P.info? e = some i) (hz : i.zero = some z) (hsz : i.size = 1) (hby : i.bytes = 4)
    (ax ay : Option Addr) (m n c : Nat) (xs ys : List Int) (hx : View .u32 w ax xs) (hy : View .u32 w ay ys) (lx : xs.length = m) (ly : ys.length = n) (h0 : 0 < m) (hm : 4 * m ≤ 1048576) (hn : 4 * n ≤ 140737488351232) :
    ∃ (g cap : Nat) (w' : World), (∀ ty, (Builtin.append_ #[t, t] ty #[.slice ax m m, .slice ay n c]).run P w = .ok (.slice (some ⟨g, 0, none⟩) (m + n) cap) w') ∧ m + n ≤ cap ∧ View .u32 w' (some ⟨g, 0, none⟩) (xs ++ ys) ∧ Below w.heap.size w w' ∨
      n = 0 ∧ ∀ ty, (Builtin.append_ #[t, t] ty #[.slice ax m m, .slice ay n c]).run P w = .ok (.slice ax m m) w := by
  by_cases hz0 : n = 0
  · subst hz0
    exact ⟨0, 0, w, .inr ⟨rfl, fun ty => run_append_nothing w t ty e i ht hi ax m m (Nat.le_refl _) ay c⟩⟩
  · obtain ⟨bx, ox, rfl, _, _⟩ := hx 0 (by omega)
    obtain ⟨b', o', rfl, _, _⟩ := hy 0 (by omega)
    have cellOf : ∀ (zs : List Int) (b o : Nat), View .u32 w (some ⟨b, o, none⟩) zs → ∀ j v, (zs.map (Value.int .u32))[j]? = some v → w.cell? ((⟨b, o, none⟩ : Addr).add j) = some v := by
      intro zs b o hv j v hj
      rw [List.getElem?_map] at hj
      have hjl : j < zs.length := by
        rcases Nat.lt_or_ge j zs.length with h | h
        · exact h
        · rw [List.getElem?_eq_none h] at hj; simp at hj
      obtain ⟨b2, o2, e2, _, hc⟩ := hv j hjl
      simp at e2
      obtain ⟨rfl, rfl⟩ := e2
      rw [Addr.add_lit, hc, ← hj, List.getElem?_eq_getElem hjl]
      simp [nth, List.getD, hjl]
    have hfit : Builtin.nextslicecap (m + n) m * i.bytes ≤ 281474976710656 := by rw [hby]; exact cap_fits m n (by omega) hm hn
    refine ⟨w.heap.size, grownCap w (m + n) m e, _, .inl ⟨fun ty => run_append_grow w t ty e i z ht hi hz ⟨bx, ox, none⟩ m m (xs.map (Value.int .u32)) (by rw [List.length_map, lx, hsz]; omega) (cellOf xs bx ox hx)
      ⟨b', o', none⟩ n c (ys.map (Value.int .u32)) (by rw [List.length_map, ly, hsz]; omega) (cellOf ys b' o' hy) (by omega) (by omega) hfit, grownCap_ge w (m + n) m e, ?_, ?_⟩⟩
    · have := view_new (k := .u32) (w := w.drew) (arr := (xs.map (Value.int .u32)).toArray ++ (ys.map (Value.int .u32)).toArray ++ Builtin.zeroCells z.cells (grownCap w (m + n) m e - (m + n))) (e := e) (zs := xs ++ ys) ?_
      · exact this
      · intro j hj
        have hj' : j < (xs ++ ys).length := hj
        have e1 : nth (xs ++ ys) j = (xs ++ ys)[j] := by simp only [nth, List.getD, List.getElem?_eq_getElem hj']; rfl
        rw [e1]
        rw [List.length_append] at hj
        rw [Array.getElem?_append_left (by simpa using hj)]
        rw [List.append_toArray]
        rw [List.getElem?_toArray, ← List.map_append, List.getElem?_map, List.getElem?_eq_getElem hj']
        rfl
    · exact (Below.refl _ w).drew.alloc (by exact Nat.le_refl _) _

end Go.Proofs.Ytpdjmapmpicgjaa
