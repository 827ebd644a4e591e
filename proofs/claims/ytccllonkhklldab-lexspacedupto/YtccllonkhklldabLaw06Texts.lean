/-
  texts of the statements of layer 6: the texts of tokens in new memory; Texts of the kit: true of lists that are the same. Nothing that was there turns.
-/
import Derived.WalkSpells
import Derived.Deep.QuietTactic
import Derived.BigQuiet
import Derived.WalkMore
import Derived.Test.YtccllonkhklldabProg
import Derived.Test.YtccllonkhklldabToks
namespace Go.Proofs.Ytccllonkhklldab
open Go.RowKit
set_option maxRecDepth 10000
set_option linter.unusedVariables false
set_option linter.unusedSimpArgs false

def nthS (l : List ByteArray) (k : Nat) : ByteArray := l.getD k ⟨#[]⟩
/-- What can be read of a slice of texts. -/
def StrsV (w : World) (a : Option Addr) (l : List ByteArray) : Prop :=
  ∀ j, j < l.length → ∃ b off, a = some ⟨b, off, none⟩ ∧ b < w.heap.size ∧ w.cell? ⟨b, off + j, none⟩ = some (.string (nthS l j))
theorem StrsV.below {w w' : World} {a : Option Addr} {l : List ByteArray} (h : StrsV w a l) (hb : Below w.heap.size w w') : StrsV w' a l := by
  intro j hj
  obtain ⟨b, off, e, hlt, h1⟩ := h j hj
  exact ⟨b, off, e, Nat.lt_of_lt_of_le hlt hb.size, (hb.cell (p := ⟨b, off + j, none⟩) hlt).trans h1⟩
theorem strs_own {w : World} {B : Nat} {v : Value} {l : List ByteArray} (h : w.ownsRow B 9 1 v l.length (l.map Value.string)) : ∃ a c, v = .slice a l.length c ∧ StrsV w a l := by
  rcases h.2 with ⟨rfl, h0⟩ | ⟨g, cap, cur, rfl, rest⟩
  · have : l = [] := List.length_eq_zero_iff.1 h0
    subst this
    exact ⟨none, 0, rfl, fun j hj => by simp at hj⟩
  · refine ⟨_, cap, rfl, fun j hj => ?_⟩
    have hc := h.cellAt j (by omega)
    have e : (l.map Value.string)[j]? = some (.string (nthS l j)) := by simp [nthS, List.getD, hj]
    rw [e] at hc
    exact ⟨g, 0, rfl, World.block_lt_of_cell? _ _ hc, by rw [Nat.zero_add]; exact hc⟩

theorem Strs.info : (Try.prog.info? 9).map (fun i => (i.zero, i.size, i.bytes)) = some (some (.string ⟨#[]⟩), 1, 16) := by kernel_rfl
/-- The texts of the first k. -/
def txtL (l : List TokT) : List ByteArray := l.map fun t => t.2.1
theorem txt_snoc (l : List TokT) (k : Nat) (h : k < l.length) : txtL (l.take (k + 1)) = txtL (l.take k) ++ [(nthT l k).2.1] := by
  rw [takeT_snoc l k h]; simp [txtL]

set_option maxHeartbeats 2000000 in
theorem texts_any (a : Option Addr) (n c : Nat) (l : List TokT) (w : World) (hl : l.length = n) (hn : n ≤ 1048576) (hv : ToksV w a l) :
    Calls Try.prog 17 #[.slice a n c] w fun e w' => ∃ v, e = .returned v ∧ w'.ownsRow w.heap.size 9 1 v (txtL l).length ((txtL l).map Value.string) ∧ Below w.heap.size w w' := by
  obtain ⟨i0, hi, hz0, hz1, hz2⟩ := info_parts Strs.info
  have HL : Hid (l.length = n) := hl
  have HS : Hid (∀ k, k < n → txtL (l.take (k + 1)) = txtL (l.take k) ++ [(nthT l k).2.1]) := fun k hk => txt_snoc l k (by omega)
  have HE : Hid (txtL (l.take n) = txtL l) := by show _ = _; rw [List.take_of_length_le (by omega)]
  have HN : Hid (∀ k, k ≤ n → (txtL (l.take k)).length = k) := fun k hk => by simp [txtL]; omega
  clear hl
  go_enter Try.func17, Try.ntmps17
  go_wp2_with fail
  go_loopw [3, 4] (fun v i wr => ∃ k : Nat, k ≤ n ∧ i = .int .i64 k ∧ wr.ownsRow w.heap.size 9 1 v k ((txtL (l.take k)).map Value.string) ∧ Below w.heap.size w wr) (fun _ i _ => n - (intOf i).toNat)
  case atStart => exact ⟨0, Nat.zero_le _, rfl, World.ownsRow_nil _ _ _ _, Below.refl _ _⟩
  case round =>
    obtain ⟨k, hk, rfl, hrow, hbel⟩ := hrel
    have hsz := hbel.size
    by_cases hlt : k < n
    · obtain ⟨b, off, rfl, hblt, c0, c1, c2⟩ := hv k (by rw [HL.out]; exact hlt)
      have c1 := (hbel.cell (p := ⟨b, off + k * 3 + 1, none⟩) hblt).trans c1
      have ES := HS.out k hlt
      have ES2 : Hid ((txtL (l.take (k + 1))).map Value.string = (txtL (l.take k)).map Value.string ++ [.string (nthT l k).2.1]) := by show _ = _; rw [ES]; simp
      generalize (nthT l k).2.1 = y at *
      have hra := hrow.alloc (.cells #[.string y] 9)
      have ew := hbel.alloc hsz (.cells #[.string y] 9)
      have hnone : ∀ kk, u3.ownBlock = some kk → w.heap.size ≤ kk := fun kk e => (hrow.lt kk e).1
      have hki : (k : Int) < (n : Int) := by omega
      have hk0 : (0 : Int) ≤ (k : Int) := by omega
      generalize (txtL (l.take k)).map Value.string = xs at *
      clear c0 c2 ES hrow hv
      go_wp2_with (at_builtin; refine wpList_append_own _ rfl (.tmp 11) (.tmp 17) 37 rfl w.heap.size 9 i0 (.string ⟨#[]⟩) 1 16 Try.underlying37 hi hz0 hz1 hz2 rfl (by decide) u3 k xs rfl hra ⟨wr.heap.size, 0, none⟩ 1 1 [.string y] rfl rfl ?c1 ?c2 ?c3 ?c4 ?c5 ?_)
      case c1 =>
        intro j u hj
        match j, hj with
        | 0, hj => simp at hj; subst hj; simp [Addr.add]
      case c2 => intro u hu; simp at hu; subst hu; rfl
      case c3 => unfold maxLen; omega
      case c4 => omega
      case c5 => simp; omega
      intro v2 w2 hown2 hgr2 _
      have hb2 : Below w.heap.size w w2 := ew.grown hgr2 (by simp; omega) (fun kk e => hnone kk e)
      clear hgr2 hra ew
      go_wp2_with fail
      go_roundw
      case rel => exact ⟨k + 1, by omega, by go_num, by rw [ES2.out]; exact hown2, hb2⟩
      case measure => simp [intOf]; omega
    · obtain rfl : k = n := by omega
      rw [HE.out] at hrow
      go_wp2_with fail
      go_ret
      have hnn := HN.out k (Nat.le_refl _)
      rw [HE.out] at hnn
      exact ⟨_, rfl, by rw [hnn]; exact hrow, hbel⟩

set_option maxHeartbeats 2000000 in
theorem kitTexts_any (l : List ByteArray) (n : Nat) (a a' : Option Addr) (c c' : Nat) (w : World) (hl : l.length = n) (hn : n ≤ 140737488351232) (hv : StrsV w a l) (hv' : StrsV w a' l) :
    Calls Try.prog 16 #[.slice a n c, .slice a' n c'] w fun e w' => e = .returned (.bool true) ∧ ∃ q, w' = w.drewN q := by
  have HLL : Hid (l.length = n) := hl
  clear hl
  go_enter Try.func16, Try.ntmps16
  go_wp2_with fail
  go_loopw [5] (fun i wr => ∃ k q : Nat, k ≤ n ∧ i = .int .i64 k ∧ wr = w.drewN q) (fun i _ => n - (intOf i).toNat)
  case atStart => exact ⟨0, 0, Nat.zero_le _, rfl, rfl⟩
  case round =>
    obtain ⟨k, q, hk, rfl, rfl⟩ := hrel
    by_cases hlt : k < n
    · obtain ⟨b, off, rfl, _, c0⟩ := hv k (by rw [HLL.out]; exact hlt)
      obtain ⟨b', off', rfl, _, d0⟩ := hv' k (by rw [HLL.out]; exact hlt)
      generalize nthS l k = x at *
      have hki : (k : Int) < (n : Int) := by omega
      have hk0 : (0 : Int) ≤ (k : Int) := by omega
      clear hv hv'
      go_wp2_with fail
      go_quiet (fail)
      go_wp2_with fail
      go_roundw
      case rel => exact ⟨k + 1, _, by omega, by go_num, rfl⟩
      case measure => simp [intOf]; omega
    · go_wp2_with fail
      go_ret
      exact ⟨rfl, q, rfl⟩

end Go.Proofs.Ytccllonkhklldab
