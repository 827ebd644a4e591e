/-
  What readForm of the layer grammar returns, for every text that is good: the form that it tells.
-/
import Derived.WalkSpells
import Derived.WalkMore
import Derived.Lib.OthersKept
import Derived.Test.YtbhoimeneekdfaaProg
import Derived.Test.YtbhoimeneekdfaaMathG
import Derived.Test.YtbhoimeneekdfaaRef03Of
namespace Go.Proofs.Ytbhoimeneekdfaa
open Go.RowKit Go.Lib
set_option maxRecDepth 10000
set_option linter.unusedVariables false
set_option linter.unusedSimpArgs false

theorem set_at {w : World} {B T : Nat} {cs : Array Value} (h : w.heap[B]? = some (.cells cs T (0, 0))) (i : Nat) (v : Value) : (w.setCell ⟨B, i, none⟩ v).heap[B]? = some (.cells (cs.setIfInBounds i v) T (0, 0)) := by
  simp only [World.setCell, Array.getElem?_modify, h]; simp

theorem set_off (w : World) (B i : Nat) (v : Value) {k : Nat} (h : k ≠ B) : (w.setCell ⟨B, i, none⟩ v).heap[k]? = w.heap[k]? := Below.heap_setCell w ⟨B, i, none⟩ v k (by simpa using h)

theorem allocs2 (w : World) (a b : Obj) : ((w.alloc a).alloc b).heap[w.heap.size]? = some a ∧ ((w.alloc a).alloc b).heap[w.heap.size + 1]? = some b :=
  ⟨(Below.heap_alloc _ _ _ (by simp)).trans (heap_alloc_new w _), by have := heap_alloc_new (w.alloc a) b; rw [World.size_alloc] at this; exact this⟩
theorem allocs3 (w : World) (a b c : Obj) : (((w.alloc a).alloc b).alloc c).heap[w.heap.size]? = some a ∧ (((w.alloc a).alloc b).alloc c).heap[w.heap.size + 1]? = some b ∧ (((w.alloc a).alloc b).alloc c).heap[w.heap.size + 2]? = some c :=
  ⟨(Below.heap_alloc _ _ _ (by simp; omega)).trans (allocs2 w a b).1, (Below.heap_alloc _ _ _ (by simp)).trans (allocs2 w a b).2, by have := heap_alloc_new ((w.alloc a).alloc b) c; rw [World.size_alloc, World.size_alloc] at this; exact this⟩

/-- What holds between two signs. -/
def RdI (w : World) (s : ByteArray) (n : Int) (k : Nat) (W : World) : Prop :=
  Below w.heap.size w W ∧ W.heap[w.heap.size]? = some (.cells (frmCells 0 noFrm) 57 (0, 0)) ∧ W.heap[w.heap.size + 1]? = some (.cells (frmCells n (rdTo s k).2.2) 57 (0, 0)) ∧ W.heap[w.heap.size + 2]? = some (.stringIter s k)

/-- How many signs are left. -/
def left (b m : Nat) (W : World) : Nat := match W.heap[b]? with | some (.stringIter _ k) => m - k | _ => 0
theorem left_at {b m : Nat} {W : World} {s : ByteArray} {k : Nat} (h : W.heap[b]? = some (.stringIter s k)) : left b m W = m - k := by unfold left; rw [h]

/-- One sign on: what the walk of a round must come to. -/
theorem rdI_next {w W : World} {s : ByteArray} {n : Int} {k : Nat} (hb : Below w.heap.size w W) (h4 : W.heap[w.heap.size]? = some (.cells (frmCells 0 noFrm) 57 (0, 0))) {cs : Array Value} (h5 : W.heap[w.heap.size + 1]? = some (.cells cs 57 (0, 0))) (hcs : cs = frmCells n (rdTo s k).2.2) (hit : W.heap[w.heap.size + 2]? = some (.stringIter s k)) : RdI w s n k W :=
  ⟨hb, h4, by rw [h5, hcs], hit⟩

set_option maxRecDepth 10000 in
set_option maxHeartbeats 4000000 in
theorem readForm_any (n : Int) (s : ByteArray) (w : World) (hg : goodT s = true) (hs : s.size ≤ 1000) :
    Calls Try.prog 35 #[.int .u16 n, .string s] w fun e w' => e = .returned (formV n (rdF s)) ∧ Below w.heap.size w w' := by
  have HG : Hid (goodT s = true) := hg
  clear hg
  go_enter Try.func35, Try.ntmps35
  go_wp2
  go_loopw [6, 7] (fun c f W => ∃ k : Nat, k ≤ s.size ∧ c = .int .i64 (rdTo s k).1 ∧ f = .int .i64 (rdTo s k).2.1 ∧ RdI w s n k W) (fun _ _ W => left (w.heap.size + 2) s.size W)
  case atStart =>
    refine ⟨0, Nat.zero_le _, rfl, rfl, (((Below.refl _ w).alloc (Nat.le_refl _) _).alloc (by simp) _).alloc (by simp; omega) _, ?_, ?_, ?_⟩
    · exact (allocs3 w _ _ _).1
    · exact (allocs3 w _ _ _).2.1
    · exact (allocs3 w _ _ _).2.2
  case round =>
    obtain ⟨k, hk, rfl, rfl, hb, h4, h5, hit⟩ := hrel
    have hl0 : left (w.heap.size + 2) s.size wr = s.size - k := left_at hit
    by_cases hlt : k < s.size
    · have hok := goodT_at HG.out hlt
      have HS : Hid (rdTo s (k + 1) = rdStep s k (sgn s k) (rdTo s k)) := rfl
      have hsg := sgn_at s k hlt
      generalize sgn s k = c at *
      generalize hrd : rdTo s k = x at *
      obtain ⟨col, fr, nm, t, r, fx, rs, mo, pa⟩ := x
      simp only [rdOk, decide_eq_true_eq] at hok
      obtain ⟨o1, o2, o3, o4, o5, o6, o7, o8, o9, o10⟩ := hok
      have hnx := fun ty => run_next_ascii_at (P := Try.prog) _ _ s k ty hit hlt (by omega)
      rw [hsg] at hnx
      obtain ⟨W1, hW1⟩ : ∃ X, X = wr.iterAt (w.heap.size + 2) s (k + 1) := ⟨_, rfl⟩
      rw [← hW1] at hnx
      have hb1 : Below w.heap.size w W1 := by rw [hW1]; exact below_iterAt hb (by omega) _ _
      have i1 : W1.heap[w.heap.size + 2]? = some (.stringIter s (k + 1)) := by rw [hW1]; exact iterAt_heap _ _ _ _ _ hit
      have g4 : W1.heap[w.heap.size]? = some (.cells (frmCells 0 noFrm) 57 (0, 0)) := by rw [hW1, iterAt_other _ _ _ _ _ (by omega)]; exact h4
      have g5 : W1.heap[w.heap.size + 1]? = some (.cells (frmCells n (nm, t, r, fx, rs, mo, pa)) 57 (0, 0)) := by rw [hW1, iterAt_other _ _ _ _ _ (by omega)]; exact h5
      clear hW1 h4 h5 hit hb hsg hrd
      obtain ⟨hc, hf⟩ := one_block g5
      have HB : Hid (Below w.heap.size w W1) := hb1
      have H4 : Hid (W1.heap[w.heap.size]? = some (.cells (frmCells 0 noFrm) 57 (0, 0))) := g4
      have H5 : Hid (W1.heap[w.heap.size + 1]? = some (.cells (frmCells n (nm, t, r, fx, rs, mo, pa)) 57 (0, 0))) := g5
      have HI : Hid (W1.heap[w.heap.size + 2]? = some (.stringIter s (k + 1))) := i1
      have HL : Hid (left (w.heap.size + 2) s.size wr = s.size - k) := hl0
      clear g4 g5 i1 hb1 hl0
      by_cases h47 : c = 47
      · subst h47
        have e1 : rdTo s (k + 1) = (col + 1, (k : Int) + 1, nm, t, r, fx, rs, mo, pa) := by rw [HS.out]; simp [rdStep]
        have HE : Hid (rdTo s (k + 1) = (col + 1, (k : Int) + 1, nm, t, r, fx, rs, mo, pa)) := e1
        clear e1 HS hc hf o9 o10
        go_wp2
        go_roundw
        case rel => exact ⟨k + 1, by omega, by rw [HE.out], by rw [HE.out], HB.out, H4.out, by rw [HE.out]; exact H5.out, HI.out⟩
        case measure => rw [HL.out, left_at HI.out]; omega
      · have hne : (c == 47) = false := by simpa using h47
        have c1 := hc 1
        have c2 := hc 2
        have c3 := hc 3
        have c4 := hc 4
        have c5 := hc 5
        have c6 := hc 6
        have c7 := hc 7
        have f1 := hf 1
        have f2 := hf 2
        have f3 := hf 3
        have f4 := hf 4
        have f5 := hf 5
        have f6 := hf 6
        have f7 := hf 7
        clear hc hf
        unfold frmCells at c1 c2 c3 c4 c5 c6 c7
        rcases (show col = 0 ∨ col = 1 ∨ col = 2 ∨ col = 3 ∨ col = 4 ∨ col = 5 by omega) with rfl | rfl | rfl | rfl | rfl | rfl
        · have HE : Hid (rdTo s (k + 1) = (0, fr, s.extract fr.toNat (k + 1), t, r, fx, rs, mo, pa)) := by show _ = _; rw [HS.out]; simp [rdStep, h47]
          clear HS o9 o10
          go_wp2
          go_roundw
          case rel => exact ⟨k + 1, by omega, by rw [HE.out], by rw [HE.out], HB.out.setCell (by simp) _, (set_off _ _ _ _ (by omega)).trans H4.out, by rw [HE.out]; exact set_at H5.out 1 _, (set_off _ _ _ _ (by omega)).trans HI.out⟩
          case measure => rw [HL.out, left_at ((set_off _ _ _ _ (by omega)).trans HI.out)]; omega
        · have HE : Hid (rdTo s (k + 1) = (1, fr, nm, t || (c == 116), r || (c == 114), fx, rs, mo, pa)) := by show _ = _; rw [HS.out]; simp [rdStep, h47]
          clear HS o9 o10
          cases t <;> cases r
          all_goals
            go_wp2
            go_roundw
            case rel => exact ⟨k + 1, by omega, by rw [HE.out], by rw [HE.out], (HB.out.setCell (by simp) _).setCell (by simp) _, (set_off _ _ _ _ (by omega)).trans ((set_off _ _ _ _ (by omega)).trans H4.out), by rw [HE.out]; exact set_at (set_at H5.out 2 _) 3 _, (set_off _ _ _ _ (by omega)).trans ((set_off _ _ _ _ (by omega)).trans HI.out)⟩
            case measure => rw [HL.out, left_at ((set_off _ _ _ _ (by omega)).trans ((set_off _ _ _ _ (by omega)).trans HI.out))]; omega
        · have HE : Hid (rdTo s (k + 1) = (2, fr, nm, t, r, s.extract fr.toNat (k + 1), rs, mo, pa)) := by show _ = _; rw [HS.out]; simp [rdStep, h47]
          clear HS o9 o10
          go_wp2
          go_roundw
          case rel => exact ⟨k + 1, by omega, by rw [HE.out], by rw [HE.out], HB.out.setCell (by simp) _, (set_off _ _ _ _ (by omega)).trans H4.out, by rw [HE.out]; exact set_at H5.out 4 _, (set_off _ _ _ _ (by omega)).trans HI.out⟩
          case measure => rw [HL.out, left_at ((set_off _ _ _ _ (by omega)).trans HI.out)]; omega
        · have HE : Hid (rdTo s (k + 1) = (3, fr, nm, t, r, fx, s.extract fr.toNat (k + 1), mo, pa)) := by show _ = _; rw [HS.out]; simp [rdStep, h47]
          clear HS o9 o10
          go_wp2
          go_roundw
          case rel => exact ⟨k + 1, by omega, by rw [HE.out], by rw [HE.out], HB.out.setCell (by simp) _, (set_off _ _ _ _ (by omega)).trans H4.out, by rw [HE.out]; exact set_at H5.out 5 _, (set_off _ _ _ _ (by omega)).trans HI.out⟩
          case measure => rw [HL.out, left_at ((set_off _ _ _ _ (by omega)).trans HI.out)]; omega
        · have HE : Hid (rdTo s (k + 1) = (4, fr, nm, t, r, fx, rs, 10 * mo + (c - 48), pa)) := by show _ = _; rw [HS.out]; simp [rdStep, h47]
          clear HS 
          have o11 := o9 rfl h47
          clear o9 o10
          go_wp2
          go_roundw
          case rel => exact ⟨k + 1, by omega, by rw [HE.out], by rw [HE.out], HB.out.setCell (by simp) _, (set_off _ _ _ _ (by omega)).trans H4.out, by rw [HE.out]; exact set_at H5.out 6 _, (set_off _ _ _ _ (by omega)).trans HI.out⟩
          case measure => rw [HL.out, left_at ((set_off _ _ _ _ (by omega)).trans HI.out)]; omega
        · have HE : Hid (rdTo s (k + 1) = (5, fr, nm, t, r, fx, rs, mo, c - 48)) := by show _ = _; rw [HS.out]; simp [rdStep, h47]
          clear HS 
          have o11 := o10 rfl h47
          clear o9 o10
          go_wp2
          go_roundw
          case rel => exact ⟨k + 1, by omega, by rw [HE.out], by rw [HE.out], HB.out.setCell (by simp) _, (set_off _ _ _ _ (by omega)).trans H4.out, by rw [HE.out]; exact set_at H5.out 7 _, (set_off _ _ _ _ (by omega)).trans HI.out⟩
          case measure => rw [HL.out, left_at ((set_off _ _ _ _ (by omega)).trans HI.out)]; omega
    · have hnx := fun ty => run_next_end_at (P := Try.prog) _ _ s k ty hit hlt
      obtain rfl : k = s.size := by omega
      have HF : Hid (rdF s = (rdTo s s.size).2.2) := rfl
      generalize rdTo s s.size = x at *
      obtain ⟨col, fr, nm, t, r, fx, rs, mo, pa⟩ := x
      obtain ⟨hc, hf⟩ := one_block h5
      obtain ⟨gc, gf⟩ := one_block h4
      have c0 := hc 0
      have c1 := hc 1
      have c2 := hc 2
      have c3 := hc 3
      have c4 := hc 4
      have c5 := hc 5
      have c6 := hc 6
      have c7 := hc 7
      have d0 := gc 0
      have d1 := gc 1
      have d2 := gc 2
      have d3 := gc 3
      have d4 := gc 4
      have d5 := gc 5
      have d6 := gc 6
      have d7 := gc 7
      unfold frmCells at c0 c1 c2 c3 c4 c5 c6 c7
      unfold frmCells noFrm at d0 d1 d2 d3 d4 d5 d6 d7
      have HB : Hid (Below w.heap.size w wr) := hb
      have H4 : Hid (wr.heap[w.heap.size]? = some (.cells (frmCells 0 noFrm) 57 (0, 0))) := h4
      clear hc gc h4 h5 hit hl0 hb
      go_wp2
      have hx := eight_set H4.out (.int .u16 n) (.string nm) (.bool t) (.bool r) (.string fx) (.string rs) (.int .i64 mo) (.int .u8 pa)
      have hy := eight_below wr w.heap.size (.int .u16 n) (.string nm) (.bool t) (.bool r) (.string fx) (.string rs) (.int .i64 mo) (.int .u8 pa)
      obtain ⟨xc, xf⟩ := one_block hx
      have x0 := xc 0
      have x1 := xc 1
      have x2 := xc 2
      have x3 := xc 3
      have x4 := xc 4
      have x5 := xc 5
      have x6 := xc 6
      have x7 := xc 7
      clear hx xc d0 d1 d2 d3 d4 d5 d6 d7 c0 c1 c2 c3 c4 c5 c6 c7 gf hf xf
      generalize hZ : ((((((((wr.setCell ⟨w.heap.size, 0, none⟩ (.int .u16 n)).setCell ⟨w.heap.size, 1, none⟩ (.string nm)).setCell ⟨w.heap.size, 2, none⟩ (.bool t)).setCell ⟨w.heap.size, 3, none⟩ (.bool r)).setCell ⟨w.heap.size, 4, none⟩ (.string fx)).setCell ⟨w.heap.size, 5, none⟩ (.string rs)).setCell ⟨w.heap.size, 6, none⟩ (.int .i64 mo)).setCell ⟨w.heap.size, 7, none⟩ (.int .u8 pa)) = Z at *
      exact bodyPost_ret (v := formV n (nm, t, r, fx, rs, mo, pa)) (by simp [results, Try.results35, go_sem, formV, x0, x1, x2, x3, x4, x5, x6, x7]) rfl ⟨by rw [HF.out], HB.out.trans hy⟩

end Go.Proofs.Ytbhoimeneekdfaa
