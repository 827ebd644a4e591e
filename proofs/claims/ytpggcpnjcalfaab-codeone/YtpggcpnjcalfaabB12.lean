/-
  Texts laid together in one: Law02Apart, Frame, MathRL, FrameSmall, FrameMeasure, MathRW, MathWR, MathD.
-/
import Derived.WalkSpells
import Derived.Deep.QuietTactic
import Derived.BigQuiet
import Derived.Deep.AppendLies
import Derived.Test.YtpggcpnjcalfaabB02
import Derived.Test.YtpggcpnjcalfaabB11
import Derived.BigRegion
/-
  apart of the laws of layer 2 answers true of instructions each of which lies in memory of its own, and are the wanted ones; what was there ahead of them stays.
-/
namespace Go.Proofs.Ytpggcpnjcalfaab
open Go.RowKit

theorem Apart.info : (Try.prog.info? 22).map (fun i => (i.zero, i.size, i.bytes)) = some (some (.int .u32 0), 1, 4) := by kernel_rfl

/-- The instructions from the k-th on lie each in memory of its own, from block lo on; the row lies elsewhere. -/
def OwnR (w : World) (lo : Nat) (a : Option Addr) (k : Nat) (rs : List (Int × List Int)) : Prop :=
  ∀ j, k ≤ j → j < rs.length → ∃ b off aj cj nj, a = some ⟨b, off, none⟩ ∧ lo ≤ b ∧ b < w.heap.size ∧ w.cell? ⟨b, off + j * 2, none⟩ = some (.int .u16 (nthR rs j).1) ∧ w.cell? ⟨b, off + j * 2 + 1, none⟩ = some (.slice aj nj cj) ∧ (nthR rs j).2.length = nj ∧
    w.ownsRow lo 22 1 (.slice aj nj cj) nj ((nthR rs j).2.map (Value.int .u32)) ∧ Value.ownBlock (.slice aj nj cj) ≠ some b ∧
    ∀ i, k ≤ i → i < rs.length → i ≠ j → ∀ ai ci ni g, w.cell? ⟨b, off + i * 2 + 1, none⟩ = some (.slice ai ni ci) → Value.ownBlock (.slice ai ni ci) = some g → Value.ownBlock (.slice aj nj cj) ≠ some g

theorem own_grown {w w' : World} {B e size n : Nat} {v : Value} {xs : List Value} {ob : Option Nat} (h : w.ownsRow B e size v n xs) (hg : w.grownBy w' ob) (hne : ∀ g, ob = some g → v.ownBlock ≠ some g) : w'.ownsRow B e size v n xs := by
  refine ⟨h.1, ?_⟩
  rcases h.2 with hn | ⟨g, cap, cur, rfl, hb, hgg, rest⟩
  · exact .inl hn
  · exact .inr ⟨g, cap, cur, rfl, hb, by rw [hg.block g (Array.getElem?_eq_some_iff.1 hgg).1 (fun e => hne g e.symm rfl)]; exact hgg, rest⟩

/-- What is written in one instruction's words leaves the later ones. -/
theorem OwnR.next {w w' : World} {lo k b off : Nat} {a : Option Addr} {rs : List (Int × List Int)} {ak : Option Addr} {nk ck : Nat} (h : OwnR w lo a k rs) (ha : a = some ⟨b, off, none⟩) (hk : k < rs.length) (hc : w.cell? ⟨b, off + k * 2 + 1, none⟩ = some (.slice ak nk ck)) (hg : w.grownBy w' (Value.ownBlock (.slice ak nk ck))) : OwnR w' lo a (k + 1) rs := by
  obtain ⟨b0, off0, ak0, ck0, nk0, e0, _, _, _, hc0, _, _, hnb, _⟩ := h k (Nat.le_refl _) hk
  rw [ha] at e0
  simp at e0
  obtain ⟨rfl, rfl⟩ := e0
  rw [hc] at hc0
  simp at hc0
  obtain ⟨rfl, rfl, rfl⟩ := hc0
  have cell : ∀ o, w'.cell? ⟨b, o, none⟩ = w.cell? ⟨b, o, none⟩ := fun o => World.cell?_of_block (hg.block b (World.block_lt_of_cell? _ _ hc) (fun e => hnb e.symm))
  intro j hj hjl
  obtain ⟨b1, off1, aj, cj, nj, e1, hlo1, hb1, c1, c2, c3, c4, c5, c6⟩ := h j (by omega) hjl
  rw [ha] at e1
  simp at e1
  obtain ⟨rfl, rfl⟩ := e1
  refine ⟨b, off, aj, cj, nj, ha, hlo1, Nat.lt_of_lt_of_le hb1 hg.size, (cell _).trans c1, (cell _).trans c2, c3, own_grown c4 hg (fun g e => c6 k (Nat.le_refl _) hk (by omega) ak ck nk g hc e), c5, ?_⟩
  intro i hi hil hij ai ci ni g hci
  rw [cell] at hci
  exact c6 i (by omega) hil hij ai ci ni g hci

theorem grown_drew (w : World) (q : Nat) (ob : Option Nat) : w.grownBy (w.drewN q) ob := by
  have h := bel_drewN (Below.refl w.heap.size w) q
  exact ⟨h.os, h.tape, h.output, h.size, fun k hk _ => h.block k hk⟩

/-- An append and what is written in its row: nothing but the old row and new blocks. -/
theorem grown_new {w w1 w2 : World} {ob : Option Nat} {g H : Nat} (h1 : w.grownBy w1 ob) (hat : ob = some g ∨ g = H) (hH : w.heap.size = H) (h2 : w1.grownBy w2 (some g)) : w.grownBy w2 ob :=
  ⟨h2.os.trans h1.os, h2.tape.trans h1.tape, h2.output.trans h1.output, Nat.le_trans h1.size h2.size, fun k hk hne =>
    (h2.block k (Nat.lt_of_lt_of_le hk h1.size) (fun e => by
      cases e
      rcases hat with h | h
      · exact hne h.symm
      · omega)).trans (h1.block k hk hne)⟩

/-- What is written elsewhere leaves them all. -/
theorem OwnR.kept {w w' : World} {lo lo' k : Nat} {a : Option Addr} {rs : List (Int × List Int)} {ob : Option Nat} (h : OwnR w lo a k rs) (hg : w.grownBy w' ob) (hob : ∀ g, ob = some g → g < lo) (hlo : lo' ≤ lo) : OwnR w' lo' a k rs := by
  intro j hj hjl
  obtain ⟨b, off, aj, cj, nj, e1, hlo1, hb1, c1, c2, c3, c4, c5, c6⟩ := h j hj hjl
  have hne : some b ≠ ob := fun e => by have := hob b e.symm; omega
  have cell : ∀ o, w'.cell? ⟨b, o, none⟩ = w.cell? ⟨b, o, none⟩ := fun o => World.cell?_of_block (hg.block b hb1 hne)
  have c4' := own_grown c4 hg (fun g e e2 => by have := (c4.lt g e2).1; have := hob g e; omega)
  refine ⟨b, off, aj, cj, nj, e1, Nat.le_trans hlo hlo1, Nat.lt_of_lt_of_le hb1 hg.size, (cell _).trans c1, (cell _).trans c2, c3, ⟨c4'.1, ?_⟩, c5, fun i hi hil hij ai ci ni g hci => by rw [cell] at hci; exact c6 i hi hil hij ai ci ni g hci⟩
  rcases c4'.2 with h0 | ⟨g, cap, cur, e, hb, rest⟩
  · exact .inl h0
  · exact .inr ⟨g, cap, cur, e, Nat.le_trans hlo hb, rest⟩
theorem OwnR.below {w w' : World} {lo k : Nat} {a : Option Addr} {rs : List (Int × List Int)} (h : OwnR w lo a k rs) (hb : Below w.heap.size w w') : OwnR w' lo a k rs :=
  h.kept (ob := none) ⟨hb.os, hb.tape, hb.output, hb.size, fun k hk _ => hb.block k hk⟩ (fun g e => by cases e) (Nat.le_refl _)

theorem OwnR.view {w : World} {lo : Nat} {a : Option Addr} {rs : List (Int × List Int)} (h : OwnR w lo a 0 rs) : RawsV w a rs := by
  intro j hj
  obtain ⟨b, off, aj, cj, nj, e, _, hb, c1, c2, c3, c4, _⟩ := h j (Nat.zero_le _) hj
  refine ⟨b, off, aj, cj, nj, e, hb, c1, c2, c3, View.ofOwn c4 c3, ?_⟩
  rcases c4.2 with ⟨e1, e2⟩ | ⟨g, c', cur, e1, _, _, e4, _⟩
  · omega
  · cases e1; exact e4

end Go.Proofs.Ytpggcpnjcalfaab

/-
  What the calls of layer 2 answer, as functions on lists; what the document's answer returns; and what is asked of the program's calls (as conditions, each proved where the program's text is walked).
-/
namespace Go.Proofs.Ytpggcpnjcalfaab
open Go.RowKit

def readL (zs : List Int) : List (Int × List Int) := if (readE zs).1 = 0 then readR zs else []
def readAt (zs : List Int) (i : Nat) : Int := if (readE zs).1 = 0 then nth zs i else 0
def writeE (bound : Int) (rs : List (Int × List Int)) : Int × Nat := if bound = 0 ∨ 65536 < bound then (24, 0) else fault rs 0
def writeL (gen bound : Int) (rs : List (Int × List Int)) : List Int := if (writeE bound rs).1 = 0 then writeTo gen bound rs rs.length else []

/-- What is asked of Read. -/
def ReadC (f : Nat) : Prop := ∀ (a : Option Addr) (n cap : Nat) (zs : List Int) (w : World), View .u32 w a zs → zs.length = n → Within 4294967296 zs → 4 * n ≤ 140737488351232 → n ≤ cap →
  Calls Try.prog f #[.slice a n cap] w fun e w' => Below w.heap.size w w' ∧ ∃ ax cx m, e = .returned (.tuple #[.agg #[.int .u32 (readAt zs 2), .int .u32 (readAt zs 3)], .slice ax m cx, .agg #[.int .i64 (readE zs).1, .int .i64 (readE zs).2]]) ∧ (readL zs).length = m ∧ OwnR w' w.heap.size ax 0 (readL zs)
/-- What is asked of Write. -/
def WriteC (f : Nat) : Prop := ∀ (gen bound : Int) (a : Option Addr) (n cap : Nat) (rs : List (Int × List Int)) (w : World), 0 ≤ gen → gen < 4294967296 → 0 ≤ bound → bound < 4294967296 → RawsV w a rs → RawsOk rs → rs.length = n → 32 * n ≤ 140737488351232 → n ≤ cap →
  Calls Try.prog f #[.agg #[.int .u32 gen, .int .u32 bound], .slice a n cap] w fun e w' => Below w.heap.size w w' ∧ ∃ ax cx m, e = .returned (.tuple #[.slice ax m cx, .agg #[.int .i64 (writeE bound rs).1, .int .i64 (writeE bound rs).2]]) ∧ (writeL gen bound rs).length = m ∧
    w'.ownsRow w.heap.size 22 1 (.slice ax m cx) m ((writeL gen bound rs).map (Value.int .u32))
/-- What is asked of Size. -/
def SizeC (f : Nat) : Prop := ∀ (a : Option Addr) (n cap : Nat) (rs : List (Int × List Int)) (w : World), RawsV w a rs → RawsOk rs → rs.length = n → 32 * n ≤ 140737488351232 → n ≤ cap →
  Calls Try.prog f #[.slice a n cap] w fun e w' => e = .returned (.tuple #[.int .i64 (sizeOut rs), .int .i64 (fault rs 0).1]) ∧ Below w.heap.size w w'
/-- What is asked of Find. -/
def FindC (f : Nat) : Prop := ∀ (a : Option Addr) (n cap : Nat) (zs : List Int) (op from_ : Int) (w : World), View .u32 w a zs → zs.length = n → Within 4294967296 zs → 4 * n ≤ 140737488351232 → n ≤ cap → 0 ≤ op → op < 65536 → -9223372036854775808 ≤ from_ → from_ ≤ 9223372036854775807 →
  Calls Try.prog f #[.slice a n cap, .int .u16 op, .int .i64 from_] w fun e w' => e = .returned (.tuple #[.int .i64 (findAt zs op from_), .bool (findIs zs op from_)]) ∧ Below w.heap.size w w'

end Go.Proofs.Ytpggcpnjcalfaab

/-
  What Read answers lies within its bounds.
-/
namespace Go.Proofs.Ytpggcpnjcalfaab
open Go.RowKit

theorem nthR_map (l : List Nat) (f : Nat → Int × List Int) (j : Nat) (h : j < l.length) : nthR (l.map f) j = f (l.getD j 0) := by
  simp [nthR, List.getD, h]

theorem readL_small (zs : List Int) (h : readL zs ≠ []) : zs.length ≤ 1048576 := by
  by_cases h1 : 1048576 < zs.length
  · exfalso; apply h; unfold readL readE; rw [if_pos h1]; simp
  · omega

theorem readR_each (zs : List Int) (hw : Within 4294967296 zs) (j : Nat) (hj : j < (readR zs).length) : 0 ≤ (nthR (readR zs) j).1 ∧ (nthR (readR zs) j).1 < 65536 ∧ Within 4294967296 (nthR (readR zs) j).2 ∧ (nthR (readR zs) j).2.length ≤ zs.length := by
  have hj' : j < (rest zs 5).length := by simpa [readR] using hj
  unfold readR
  rw [nthR_map _ _ _ hj']
  obtain ⟨_, h2, h3⟩ := rest_mem zs 5 ((rest zs 5).getD j 0) (by simp [List.getD, hj'])
  refine ⟨opI_lo _ _, opI_hi _ _, fun z hz => hw z ?_, ?_⟩
  · exact List.mem_of_mem_drop (List.mem_of_mem_take hz)
  · show (midL _ _ _).length ≤ _
    unfold midL
    rw [List.length_take, List.length_drop]; omega

theorem readL_each (zs : List Int) (hw : Within 4294967296 zs) (j : Nat) (hj : j < (readL zs).length) : 0 ≤ (nthR (readL zs) j).1 ∧ (nthR (readL zs) j).1 < 65536 ∧ Within 4294967296 (nthR (readL zs) j).2 ∧ (nthR (readL zs) j).2.length ≤ zs.length := by
  unfold readL at hj ⊢
  by_cases h : (readE zs).1 = 0
  · rw [if_pos h] at hj ⊢; exact readR_each zs hw j hj
  · rw [if_neg h] at hj; simp at hj

theorem readL_ok (zs : List Int) (hw : Within 4294967296 zs) (hn : 4 * zs.length ≤ 140737488351232) : RawsOk (readL zs) := fun j hj => by
  obtain ⟨h1, h2, h3, h4⟩ := readL_each zs hw j hj
  exact ⟨h1, h2, h3, by omega⟩
theorem readL_sm (zs : List Int) (hw : Within 4294967296 zs) (j : Nat) (hj : j < (readL zs).length) : (nthR (readL zs) j).2.length ≤ 1048576 := by
  have h := readL_small zs (fun e => by rw [e] at hj; simp at hj)
  have := (readL_each zs hw j hj).2.2.2
  omega
theorem readL_len (zs : List Int) : (readL zs).length ≤ zs.length := by
  unfold readL
  split
  · have := rest_len zs 5; simp [readR]; omega
  · simp

end Go.Proofs.Ytpggcpnjcalfaab

/-
  The small functions of frame: a first word parted and made, how many words an instruction has, whether a bound may be.
-/
namespace Go.Proofs.Ytpggcpnjcalfaab
open Go.RowKit
set_option maxRecDepth 10000

theorem partFirst_any (x : Int) (w : World) (h0 : 0 ≤ x) (h1 : x < 4294967296) :
    Calls Try.prog 79 #[.int .u32 x] w fun e w' => e = .returned (.tuple #[.int .u16 (x % 65536), .int .i64 (x / 65536)]) ∧ w = w' := by
  go_enter Try.func79, Try.ntmps79
  go_wp2
  refine bodyPost_ret (v := .tuple #[.int .u16 (IntKind.u16.wrap x), .int .i64 (x / 65536)]) (by simp [results, Try.results79, go_sem]) rfl ⟨?_, rfl⟩
  rw [show IntKind.u16.wrap x = x % 65536 by simp [IntKind.wrap, IntKind.bits, IntKind.signed]]

theorem mayBeBound_any (x : Int) (w : World) (h0 : 0 ≤ x) (h1 : x < 4294967296) :
    Calls Try.prog 45 #[.int .u32 x] w fun e w' => e = .returned (.bool (!(decide (x = 0) || decide (65536 < x)))) ∧ w = w' := by
  go_enter Try.func45, Try.ntmps45
  go_wp2
  · go_ret
    refine ⟨?_, rfl⟩
    have hx : 1 ≤ x := by assumption
    show Ending.returned (.bool (decide (x ≤ 65536))) = _
    congr 2
    by_cases h : x ≤ 65536
    · simp [h, show ¬ x = 0 by omega]
    · simp [h]; omega
  · go_ret
    refine ⟨?_, rfl⟩
    have hx : ¬ 1 ≤ x := by first | assumption | (have : x < 1 := by assumption
                                                  omega)
    obtain rfl : x = 0 := by omega
    rfl

theorem wordsOf_any (op : Int) (a : Option Addr) (n cap : Nat) (w : World) (hn : n ≤ 140737488351232) :
    Calls Try.prog 54 #[.agg #[.int .u16 op, .slice a n cap]] w fun e w' => e = .returned (.int .i64 ((n : Int) + 1)) ∧ w.alloc (.cells #[.int .u16 op, .slice a n cap] 46) = w' := by
  go_enter Try.func54, Try.ntmps54
  go_wp2
  go_ret
  exact ⟨ret_int (by omega), rfl⟩

theorem firstWord_any (op : Int) (a : Option Addr) (n cap : Nat) (w : World) (hn : n < 65535) (ho : 0 ≤ op) (ho2 : op < 65536) :
    Calls Try.prog 47 #[.agg #[.int .u16 op, .slice a n cap]] w fun e w' => e = .returned (.int .u32 (((n : Int) + 1) * 65536 + op)) ∧ Below w.heap.size w w' := by
  have hW := fun w => wordsOf_any op a n cap w (by omega)
  go_enter Try.func47, Try.ntmps47
  go_wp2_with fail
  go_region_with (go_at_call 54; refine (hW _).mono ?_; rintro e w' ⟨rfl, rfl⟩)
  all_goals go_wp2
  all_goals go_ret
  all_goals refine ⟨?_, (((Below.refl _ _).alloc (Nat.le_refl _) _).alloc (by simp) _).drew⟩
  all_goals
    show Ending.returned (.int .u32 (bits .or .u32 (IntKind.u32.wrap (IntKind.u32.wrap ((n : Int) + 1) * 65536)) (IntKind.u32.wrap op))) = _
    apply ret_int
    rw [show IntKind.u32.wrap ((n : Int) + 1) = (n : Int) + 1 by rw [IntKind.wrap_u32']; omega, show IntKind.u32.wrap (((n : Int) + 1) * 65536) = ((n : Int) + 1) * 65536 by rw [IntKind.wrap_u32']; omega, show IntKind.u32.wrap op = op by rw [IntKind.wrap_u32']; omega]
    exact or_high ((n : Int) + 1) op 16 (by omega) ho (by omega) (by omega)

end Go.Proofs.Ytpggcpnjcalfaab

/-
  What measure and Size of frame return: how many words the head and the instructions have, or the first instruction that may not be.
-/
namespace Go.Proofs.Ytpggcpnjcalfaab
open Go.RowKit

theorem fault_any (rs : List (Int × List Int)) : fault rs 0 = (0, 0) ∨ (fault rs 0).1 ≠ 0 := by
  have key : ∀ f k, faultF rs f k = (0, 0) ∨ (faultF rs f k).1 ≠ 0 := by
    intro f
    induction f with
    | zero => intro k; exact .inl rfl
    | succ f ih =>
      intro k
      rw [faultF]
      split
      · split
        · exact .inr (by simp)
        · split
          · exact .inr (by simp)
          · exact ih (k + 1)
      · exact .inl rfl
  exact key _ _

theorem spot_set {w : World} {g T : Nat} {a b : Value} (h : w.heap[g]? = some (.cells #[a, b] T (0, 0))) (u0 u1 : Value) :
    ((w.setCell ⟨g, 0, none⟩ u0).setCell ⟨g, 1, none⟩ u1).cell? ⟨g, 0, none⟩ = some u0 ∧ ((w.setCell ⟨g, 0, none⟩ u0).setCell ⟨g, 1, none⟩ u1).cell? ⟨g, 1, none⟩ = some u1 := by
  have hfin : ((w.setCell ⟨g, 0, none⟩ u0).setCell ⟨g, 1, none⟩ u1).heap[g]? = some (.cells #[u0, u1] T (0, 0)) := by
    simp only [World.setCell, Array.getElem?_modify, h]; simp
  obtain ⟨z0, z1, _⟩ := cell_of_two hfin
  exact ⟨z0, z1⟩

theorem cell_past {w : World} {g j : Nat} {o : Obj} {v : Value} (h : w.cell? ⟨g, j, none⟩ = some v) : (w.alloc o).cell? ⟨g, j, none⟩ = some v := by
  rw [World.cell?_alloc_past _ _ _ (World.block_lt_of_cell? _ _ h)]; exact h

set_option maxRecDepth 100000 in
set_option maxHeartbeats 2000000 in
theorem measure_any (a : Option Addr) (n cap : Nat) (rs : List (Int × List Int)) (w : World) (ha : RawsV w a rs) (hok : RawsOk rs) (hl : rs.length = n) (hn : 32 * n ≤ 140737488351232) :
    Calls Try.prog 46 #[.slice a n cap] w fun e w' => e = .returned (.tuple #[.int .i64 (sizeOut rs), .agg #[.int .i64 (fault rs 0).1, .int .i64 (fault rs 0).2]]) ∧ Below w.heap.size w w' := by
  have HL : Hid (rs.length = n) := hl
  clear hl
  go_enter Try.func46, Try.ntmps46
  go_wp2
  go_loopw [4, 9] (fun s i wr => ∃ k : Nat, k ≤ n ∧ i = .int .i64 k ∧ s = .int .i64 (sizeTo rs k) ∧ sizeTo rs k ≤ 1048576 ∧ fault rs 0 = fault rs k ∧ wr.heap[w.heap.size]? = some (.cells #[.int .i64 0, .int .i64 0] 28 (0, 0)) ∧ Below w.heap.size w wr) (fun _ i _ => n - (intOf i).toNat)
  case atStart => exact ⟨0, Nat.zero_le _, rfl, rfl, by rw [sizeTo_zero]; omega, rfl, heap_alloc_new w _, (Below.refl _ _).alloc (Nat.le_refl _) _⟩
  case round =>
    obtain ⟨k, hk, rfl, rfl, hsz, hfe, hbox, hnx⟩ := hrel
    have HF : Hid (fault rs 0 = fault rs k) := hfe
    clear hfe
    have hlt0 : w.heap.size < wr.heap.size := (Array.getElem?_eq_some_iff.1 hbox).1
    by_cases hlt : k < n
    · obtain ⟨b, off, aj, cj, nj, rfl, hbs, p1, p2, p3, _, _⟩ := ha k (by rw [HL.out]; exact hlt)
      obtain ⟨_, _, _, h4⟩ := hok k (by rw [HL.out]; exact hlt)
      rw [p3] at h4
      have HS : Hid (sizeTo rs (k + 1) = sizeTo rs k + 1 + (nthR rs k).2.length) := sizeTo_succ rs k (by rw [HL.out]; exact hlt)
      have HT := fault_step rs k (by rw [HL.out]; exact hlt)
      rw [p3] at HT HS
      have HT' : Hid (fault rs k = if 65535 ≤ nj then (25, k) else if 1048576 < sizeTo rs (k + 1) then (4, k) else fault rs (k + 1)) := HT
      have q1 := (hnx.cell (p := ⟨b, off + k * 2, none⟩) hbs).trans p1
      have q2 := (hnx.cell (p := ⟨b, off + k * 2 + 1, none⟩) hbs).trans p2
      generalize sizeTo rs k = s at hsz HS
      have hki : (k : Int) < (n : Int) := by omega
      have hk0 : (0 : Int) ≤ (k : Int) := by omega
      have hW := fun op w => wordsOf_any op aj nj cj w (by omega)
      generalize (nthR rs k).1 = op at q1 p1
      clear HT ha p1 p2 p3 hok
      obtain ⟨R1, hR1⟩ : ∃ o, o = Obj.cells #[.int .u16 op, .slice aj nj cj] 46 (0, 0) := ⟨_, rfl⟩
      have hbx1 : ((wr.alloc R1).alloc R1).heap[w.heap.size]? = some (.cells #[.int .i64 0, .int .i64 0] 28 (0, 0)) := (Below.heap_alloc _ _ _ (by simp; omega)).trans ((Below.heap_alloc _ _ _ hlt0).trans hbox)
      obtain ⟨c0, c1, f1⟩ := cell_of_two hbox
      have f0 : wr.frozen? ⟨w.heap.size, 0, none⟩ = false := by simp [World.frozen?, hbox]
      by_cases h1 : 65535 ≤ nj
      · have b1 : decide ((65535 : Int) < (nj : Int) + 1) = true := decide_eq_true (by omega)
        have HE : Hid (fault rs 0 = (25, k)) := by show _ = _; rw [HF.out, HT'.out, if_pos h1]
        have HO : Hid (sizeOut rs = 0) := by show _ = _; unfold sizeOut; rw [HE.out]; rfl
        have hf0 := spot_set hbox (.int .i64 25) (.int .i64 k)
        have hf := And.intro (cell_past (o := R1) (cell_past (o := R1) hf0.1)) (cell_past (o := R1) (cell_past (o := R1) hf0.2))
        have HZ : Hid (_ ∧ _) := hf
        have HB : Hid (Below w.heap.size w ((((wr.setCell ⟨w.heap.size, 0, none⟩ (.int .i64 25)).setCell ⟨w.heap.size, 1, none⟩ (.int .i64 k)).alloc R1).alloc R1)) := (((hnx.setCell (by simp) _).setCell (by simp) _).alloc (by simp; omega) _).alloc (by simp; omega) _
        clear hf hf0 hbx1 hbox
        subst hR1
        go_wp2_with (go_at_call 54; refine (hW _ _).mono ?_; rintro e w' ⟨rfl, rfl⟩)
        exact bodyPost_ret (v := .tuple #[.int .i64 0, .agg #[.int .i64 25, .int .i64 k]]) (by simp [results, Try.results46, go_sem, HZ.out.1, HZ.out.2]) rfl ⟨by rw [HE.out, HO.out], HB.out⟩
      · have b1 : decide ((65535 : Int) < (nj : Int) + 1) = false := decide_eq_false (by omega)
        have hbx2 : (((wr.alloc R1).alloc R1).alloc R1).heap[w.heap.size]? = some (.cells #[.int .i64 0, .int .i64 0] 28 (0, 0)) := (Below.heap_alloc _ _ _ (by simp; omega)).trans hbx1
        have HB2 : Hid (Below w.heap.size w (((wr.alloc R1).alloc R1).alloc R1)) := ((hnx.alloc hnx.size _).alloc (by simp; omega) _).alloc (by simp; omega) _
        by_cases h2 : 1048576 < s + 1 + nj
        · have b2 : decide ((1048576 : Int) < (s : Int) + ((nj : Int) + 1)) = true := decide_eq_true (by omega)
          have HE : Hid (fault rs 0 = (4, k)) := by show _ = _; rw [HF.out, HT'.out, if_neg h1, if_pos (by rw [HS.out]; exact h2)]
          have HO : Hid (sizeOut rs = 0) := by show _ = _; unfold sizeOut; rw [HE.out]; rfl
          have hf := spot_set hbx2 (.int .i64 4) (.int .i64 k)
          obtain ⟨c0', c1', f1'⟩ := cell_of_two hbx2
          have f0' : (((wr.alloc R1).alloc R1).alloc R1).frozen? ⟨w.heap.size, 0, none⟩ = false := by simp only [World.frozen?, hbx2]; rfl
          have HZ : Hid (_ ∧ _) := hf
          have HB : Hid (Below w.heap.size w (((((wr.alloc R1).alloc R1).alloc R1).setCell ⟨w.heap.size, 0, none⟩ (.int .i64 4)).setCell ⟨w.heap.size, 1, none⟩ (.int .i64 k))) := (HB2.out.setCell (by simp) _).setCell (by simp) _
          clear hf hbx1 hbx2 hbox
          subst hR1
          go_wp2_with (go_at_call 54; refine (hW _ _).mono ?_; rintro e w' ⟨rfl, rfl⟩)
          exact bodyPost_ret (v := .tuple #[.int .i64 0, .agg #[.int .i64 4, .int .i64 k]]) (by simp [results, Try.results46, go_sem, HZ.out.1, HZ.out.2]) rfl ⟨by rw [HE.out, HO.out], HB.out⟩
        · have b2 : decide ((1048576 : Int) < (s : Int) + ((nj : Int) + 1)) = false := decide_eq_false (by omega)
          have HE : Hid (fault rs 0 = fault rs (k + 1)) := by show _ = _; rw [HF.out, HT'.out, if_neg h1, if_neg (by rw [HS.out]; exact h2)]
          have HX : Hid _ := hbx2
          clear hbx1 hbx2 hbox
          subst hR1
          go_wp2_with (go_at_call 54; refine (hW _ _).mono ?_; rintro e w' ⟨rfl, rfl⟩)
          go_roundw
          case rel => exact ⟨k + 1, by omega, by go_num, by rw [HS.out]; go_num, by rw [HS.out]; omega, HE.out, HX.out, HB2.out⟩
          case measure => simp [intOf]; omega
    · obtain rfl : k = n := by omega
      have HE : Hid (fault rs 0 = (0, 0)) := by show _ = _; rw [HF.out]; exact fault_end rs k (by rw [HL.out]; omega)
      have HO : Hid (sizeOut rs = sizeTo rs k) := by show _ = _; unfold sizeOut; rw [HE.out, if_pos rfl, HL.out]
      have hf := spot_set hbox (.int .i64 0) (.int .i64 0)
      obtain ⟨c0, c1, f1⟩ := cell_of_two hbox
      have f0 : wr.frozen? ⟨w.heap.size, 0, none⟩ = false := by simp [World.frozen?, hbox]
      have HZ : Hid (_ ∧ _) := hf
      have HB : Hid (Below w.heap.size w ((wr.setCell ⟨w.heap.size, 0, none⟩ (.int .i64 0)).setCell ⟨w.heap.size, 1, none⟩ (.int .i64 0))) := (hnx.setCell (by simp) _).setCell (by simp) _
      clear hf hbox ha hok
      go_wp2
      exact bodyPost_ret (v := .tuple #[.int .i64 (sizeTo rs k), .agg #[.int .i64 0, .int .i64 0]]) (by simp [results, Try.results46, go_sem, HZ.out.1, HZ.out.2]) rfl ⟨by rw [HE.out, HO.out]; rfl, HB.out⟩

end Go.Proofs.Ytpggcpnjcalfaab

/-
  What is written is read as it was, and what is read is written as it was: on lists.
-/
namespace Go.Proofs.Ytpggcpnjcalfaab
open Go.RowKit

theorem nth_app_lo (xs ys : List Int) (k : Nat) (h : k < xs.length) : nth (xs ++ ys) k = nth xs k := getD_left xs ys k h
theorem nth_app_hi (xs ys : List Int) (k : Nat) : nth (xs ++ ys) (xs.length + k) = nth ys k := by
  rw [getD_right _ _ _ (by omega)]; congr 1; omega

/-- The words from the k-th instruction on. -/
theorem writeTo_split (gen bound : Int) (rs : List (Int × List Int)) (k : Nat) : writeTo gen bound rs rs.length = writeTo gen bound rs k ++ (rs.drop k).flatMap rawW := by
  unfold writeTo
  rw [List.take_length, List.append_assoc, ← List.flatMap_append, List.take_append_drop]

theorem drop_cons (rs : List (Int × List Int)) (k : Nat) (h : k < rs.length) : rs.drop k = nthR rs k :: rs.drop (k + 1) := by
  rw [List.drop_eq_getElem_cons h]; simp [nthR, List.getD, h]

theorem rest_write (gen bound : Int) (rs : List (Int × List Int)) (hok : RawsOk rs) (hsm : ∀ j, j < rs.length → (nthR rs j).2.length < 65535) :
    ∀ d k, rs.length - k = d → k ≤ rs.length → (rest (writeTo gen bound rs rs.length) (sizeTo rs k)).map (rawAt (writeTo gen bound rs rs.length)) = rs.drop k ∧ stop (writeTo gen bound rs rs.length) (sizeTo rs k) = (writeTo gen bound rs rs.length).length := by
  intro d
  induction d with
  | zero =>
    intro k hd hk
    obtain rfl : k = rs.length := by omega
    have hl := writeTo_len gen bound rs rs.length (Nat.le_refl _)
    rw [rest_end _ _ (by omega), stop_end _ _ (by omega), List.drop_length]
    exact ⟨rfl, hl.symm⟩
  | succ d ih =>
    intro k hd hk
    have hkl : k < rs.length := by omega
    obtain ⟨o1, o2, o3, _⟩ := hok k hkl
    have hs := hsm k hkl
    have hlk := writeTo_len gen bound rs k hk
    have hln := writeTo_len gen bound rs rs.length (Nat.le_refl _)
    have hsp := writeTo_split gen bound rs k
    rw [drop_cons rs k hkl, List.flatMap_cons] at hsp
    generalize hw : writeTo gen bound rs rs.length = ws at *
    have hzl : ws.length = sizeTo rs k + (1 + (nthR rs k).2.length + ((rs.drop (k + 1)).flatMap rawW).length) := by
      rw [hsp, List.length_append, List.length_append, hlk]; simp [rawW]; omega
    have hx : nth ws (sizeTo rs k) = ((nthR rs k).2.length + 1 : Int) * 65536 + (nthR rs k).1 := by
      have h0 := nth_app_hi (writeTo gen bound rs k) (rawW (nthR rs k) ++ (rs.drop (k + 1)).flatMap rawW) 0
      rw [← hsp, hlk] at h0
      exact h0
    have hc : cntN ws (sizeTo rs k) = (nthR rs k).2.length + 1 := by unfold cntN; rw [hx]; omega
    have ho : opI ws (sizeTo rs k) = (nthR rs k).1 := by unfold opI; rw [hx]; omega
    have hb : badB ws (sizeTo rs k) = false := badB_false (fun h => by
      unfold badAt at h
      rw [hc] at h
      omega)
    have hm : midL ws (sizeTo rs k + 1) (cntN ws (sizeTo rs k) - 1) = (nthR rs k).2 := by
      rw [hc, hsp, midL, ← hlk]
      have : (writeTo gen bound rs k ++ (rawW (nthR rs k) ++ (rs.drop (k + 1)).flatMap rawW)) = (writeTo gen bound rs k ++ [((nthR rs k).2.length + 1 : Int) * 65536 + (nthR rs k).1]) ++ ((nthR rs k).2 ++ (rs.drop (k + 1)).flatMap rawW) := by simp [rawW]
      rw [this, List.drop_left' (by simp), Nat.add_sub_cancel, List.take_left' rfl]
    have hnx : sizeTo rs k + cntN ws (sizeTo rs k) = sizeTo rs (k + 1) := by rw [hc, sizeTo_succ rs k hkl]; omega
    obtain ⟨i1, i2⟩ := ih (k + 1) (by omega) (by omega)
    rw [rest_go ws _ (by omega) hb, stop_go ws _ (by omega) hb, hnx, List.map_cons, i1, i2, drop_cons rs k hkl]
    refine ⟨?_, rfl⟩
    congr 1
    unfold rawAt
    rw [ho, hm]

theorem headE_write (gen bound : Int) (ys : List Int) (hb1 : ¬ bound = 0) (hb2 : ¬ 65536 < bound) : headE ([119734787, 65536, gen, bound, 0] ++ ys) 0 = (0, 0) := by
  have hl : 5 ≤ ([119734787, 65536, gen, bound, 0] ++ ys).length := by simp
  rw [headE_step _ 0 (by omega), if_neg (by omega), if_neg (by simp [nth, wrongE]), headE_step _ 1 (by omega), if_neg (by omega), if_neg (by simp [nth, wrongE]), headE_step _ 2 (by omega), if_neg (by omega), if_neg (by simp [wrongE]),
    headE_step _ 3 (by omega), if_neg (by omega), if_neg (by simp [nth, wrongE, hb1, hb2]), headE_step _ 4 (by omega), if_neg (by omega), if_neg (by simp [nth, wrongE])]
  exact headE_end _

theorem writeTo_within (gen bound : Int) (hg0 : 0 ≤ gen) (hg1 : gen < 4294967296) (hb0 : 0 ≤ bound) (hb1 : bound < 4294967296) (rs : List (Int × List Int)) (hok : RawsOk rs) (hsm : ∀ j, j < rs.length → (nthR rs j).2.length < 65535) : Within 4294967296 (writeTo gen bound rs rs.length) := by
  intro z hz
  unfold writeTo at hz
  rw [List.take_length, List.mem_append] at hz
  rcases hz with hz | hz
  · simp at hz; omega
  · obtain ⟨r, hr, hz⟩ := List.mem_flatMap.1 hz
    obtain ⟨j, hj, rfl⟩ := List.mem_iff_getElem.1 hr
    have e : nthR rs j = rs[j] := by simp [nthR, List.getD, hj]
    obtain ⟨o1, o2, o3, _⟩ := hok j hj
    have h1 := hsm j hj
    rw [e] at o1 o2 o3 h1
    simp only [rawW, List.mem_cons] at hz
    rcases hz with rfl | hz
    · constructor <;> omega
    · exact o3 z hz

/-- Read of what Write answers. -/
theorem read_write (gen bound : Int) (rs : List (Int × List Int)) (hok : RawsOk rs) (hz : fault rs 0 = (0, 0)) (hb1 : ¬ bound = 0) (hb2 : ¬ 65536 < bound) :
    readE (writeTo gen bound rs rs.length) = (0, 0) ∧ readL (writeTo gen bound rs rs.length) = rs ∧ readAt (writeTo gen bound rs rs.length) 2 = gen ∧ readAt (writeTo gen bound rs rs.length) 3 = bound := by
  have hn := fault_none rs (by rw [hz])
  have hlen := writeTo_len gen bound rs rs.length (Nat.le_refl _)
  obtain ⟨h1, h2⟩ := rest_write gen bound rs hok (fun j hj => (hn rs.length (Nat.le_refl _)).2 j hj) rs.length 0 rfl (by omega)
  rw [sizeTo_zero] at h1 h2
  rw [List.drop_zero] at h1
  have hh : headE (writeTo gen bound rs rs.length) 0 = (0, 0) := headE_write gen bound _ hb1 hb2
  have he : readE (writeTo gen bound rs rs.length) = (0, 0) := by
    unfold readE
    rw [if_neg (by have := (hn rs.length (Nat.le_refl _)).1; omega), hh, if_neg (by simp), if_neg (by omega)]
  refine ⟨he, ?_, ?_, ?_⟩
  · unfold readL; rw [he, if_pos rfl]; exact h1
  · unfold readAt; rw [he, if_pos rfl]; rfl
  · unfold readAt; rw [he, if_pos rfl]; rfl

end Go.Proofs.Ytpggcpnjcalfaab

/-
  What is read is written as it was, and its instructions lie one behind the other: on lists.
-/
namespace Go.Proofs.Ytpggcpnjcalfaab
open Go.RowKit

theorem readR_len (zs : List Int) : (readR zs).length = (rest zs 5).length := by simp [readR]

theorem headE_ok (zs : List Int) (h : (headE zs 0).1 = 0) : 5 ≤ zs.length ∧ zs.take 5 = [119734787, 65536, nth zs 2, nth zs 3, 0] ∧ nth zs 3 ≠ 0 ∧ ¬ 65536 < nth zs 3 := by
  by_cases l0 : zs.length ≤ 0
  · rw [headE_step _ 0 (by omega), if_pos l0] at h; simp at h
  by_cases w0 : wrongE 0 (nth zs 0) ≠ 0
  · rw [headE_step _ 0 (by omega), if_neg l0, if_pos w0] at h; exact absurd h w0
  rw [headE_step _ 0 (by omega), if_neg l0, if_neg w0] at h
  by_cases l1 : zs.length ≤ 1
  · rw [headE_step _ 1 (by omega), if_pos l1] at h; simp at h
  by_cases w1 : wrongE 1 (nth zs 1) ≠ 0
  · rw [headE_step _ 1 (by omega), if_neg l1, if_pos w1] at h; exact absurd h w1
  rw [headE_step _ 1 (by omega), if_neg l1, if_neg w1] at h
  by_cases l2 : zs.length ≤ 2
  · rw [headE_step _ 2 (by omega), if_pos l2] at h; simp at h
  by_cases w2 : wrongE 2 (nth zs 2) ≠ 0
  · rw [headE_step _ 2 (by omega), if_neg l2, if_pos w2] at h; exact absurd h w2
  rw [headE_step _ 2 (by omega), if_neg l2, if_neg w2] at h
  by_cases l3 : zs.length ≤ 3
  · rw [headE_step _ 3 (by omega), if_pos l3] at h; simp at h
  by_cases w3 : wrongE 3 (nth zs 3) ≠ 0
  · rw [headE_step _ 3 (by omega), if_neg l3, if_pos w3] at h; exact absurd h w3
  rw [headE_step _ 3 (by omega), if_neg l3, if_neg w3] at h
  by_cases l4 : zs.length ≤ 4
  · rw [headE_step _ 4 (by omega), if_pos l4] at h; simp at h
  by_cases w4 : wrongE 4 (nth zs 4) ≠ 0
  · rw [headE_step _ 4 (by omega), if_neg l4, if_pos w4] at h; exact absurd h w4
  have w0' : wrongE 0 (nth zs 0) = 0 := Decidable.not_not.1 w0
  have w1' : wrongE 1 (nth zs 1) = 0 := Decidable.not_not.1 w1
  have w3' : wrongE 3 (nth zs 3) = 0 := Decidable.not_not.1 w3
  have w4' : wrongE 4 (nth zs 4) = 0 := Decidable.not_not.1 w4
  have e0 : nth zs 0 = 119734787 := by
    unfold wrongE at w0'; rw [if_pos rfl] at w0'
    split at w0'
    · simp at w0'
    · split at w0'
      · assumption
      · simp at w0'
  have e1 : nth zs 1 = 65536 := by
    unfold wrongE at w1'; rw [if_neg (by omega), if_pos rfl] at w1'
    split at w1'
    · assumption
    · simp at w1'
  have e3 : nth zs 3 ≠ 0 ∧ ¬ 65536 < nth zs 3 := by
    unfold wrongE at w3'; rw [if_neg (by omega), if_neg (by omega), if_pos rfl] at w3'
    split at w3'
    · simp at w3'
    · split at w3'
      · simp at w3'
      · exact ⟨by assumption, by assumption⟩
  have e4 : nth zs 4 = 0 := by
    unfold wrongE at w4'; rw [if_neg (by omega), if_neg (by omega), if_neg (by omega), if_pos rfl] at w4'
    split at w4'
    · assumption
    · simp at w4'
  refine ⟨by omega, ?_, e3.1, e3.2⟩
  rw [take_snoc zs 4 (by omega), take_snoc zs 3 (by omega), take_snoc zs 2 (by omega), take_snoc zs 1 (by omega), take_snoc zs 0 (by omega), e0, e1, e4]
  rfl

theorem readE_ok (zs : List Int) (h : (readE zs).1 = 0) : zs.length ≤ 1048576 ∧ (headE zs 0).1 = 0 ∧ zs.length ≤ stop zs 5 := by
  unfold readE at h
  by_cases h1 : 1048576 < zs.length
  · rw [if_pos h1] at h; simp at h
  · rw [if_neg h1] at h
    by_cases h2 : (headE zs 0).1 ≠ 0
    · rw [if_pos h2] at h; exact absurd h h2
    · rw [if_neg h2] at h
      by_cases h3 : stop zs 5 < zs.length
      · rw [if_pos h3] at h; simp at h
      · exact ⟨by omega, Decidable.not_not.1 h2, by omega⟩

theorem rest_nil_stop (zs : List Int) (p : Nat) (h : rest zs p = []) : stop zs p = p := by
  by_cases hp : p < zs.length
  · cases hb : badB zs p with
    | true => exact stop_bad zs p hp hb
    | false => rw [rest_go zs p hp hb] at h; simp at h
  · exact stop_end zs p (by omega)

theorem rest_cons_at (zs : List Int) (p q : Nat) (l : List Nat) (h : rest zs p = q :: l) : p = q ∧ p < zs.length ∧ badB zs p = false ∧ rest zs (p + cntN zs p) = l := by
  by_cases hp : p < zs.length
  · cases hb : badB zs p with
    | true => rw [rest_bad zs p hp hb] at h; simp at h
    | false =>
      rw [rest_go zs p hp hb] at h
      injection h with h1 h2
      exact ⟨h1, hp, rfl, h2⟩
  · rw [rest_end zs p (by omega)] at h; simp at h

theorem rawW_at (zs : List Int) (hw : Within 4294967296 zs) (p : Nat) (hp : p < zs.length) (hb : badB zs p = false) : zs.take p ++ rawW (rawAt zs p) = zs.take (p + cntN zs p) := by
  have h1 := cnt_pos hb
  have h2 := cnt_fits hb
  have hx : 0 ≤ nth zs p := (hw.at hp).1
  have hl : (midL zs (p + 1) (cntN zs p - 1)).length = cntN zs p - 1 := midL_len zs _ _ (by omega)
  have hv : (((rawAt zs p).2.length : Int) + 1) * 65536 + (rawAt zs p).1 = nth zs p := by
    show (((midL zs (p + 1) (cntN zs p - 1)).length : Int) + 1) * 65536 + opI zs p = _
    rw [hl]
    have := cntN_int zs p hx
    unfold opI
    omega
  have e : zs.take (p + cntN zs p) = zs.take (p + 1) ++ midL zs (p + 1) (cntN zs p - 1) := by
    rw [show p + cntN zs p = (p + 1) + (cntN zs p - 1) by omega, List.take_add]; rfl
  rw [e, take_snoc zs p hp, rawW, hv, List.append_assoc]
  rfl

/-- The k-th place is how many words stand ahead of it; they are the words that are written. -/
theorem back_to (zs : List Int) (hw : Within 4294967296 zs) (hh : (headE zs 0).1 = 0) : ∀ k, k ≤ (rest zs 5).length →
    sizeTo (readR zs) k ≤ zs.length ∧ rest zs (sizeTo (readR zs) k) = (rest zs 5).drop k ∧ stop zs (sizeTo (readR zs) k) = stop zs 5 ∧ writeTo (nth zs 2) (nth zs 3) (readR zs) k = zs.take (sizeTo (readR zs) k)
  | 0, _ => by
    obtain ⟨h1, h2, _⟩ := headE_ok zs hh
    rw [sizeTo_zero]
    exact ⟨h1, rfl, rfl, by rw [h2]; simp [writeTo]⟩
  | k + 1, hk => by
    obtain ⟨i1, i2, i3, i4⟩ := back_to zs hw hh k (by omega)
    have hc : (rest zs 5).drop k = (rest zs 5).getD k 0 :: (rest zs 5).drop (k + 1) := by
      rw [List.drop_eq_getElem_cons (by omega)]; simp [List.getD, show k < (rest zs 5).length by omega]
    rw [hc] at i2
    obtain ⟨e, hp, hb, hn⟩ := rest_cons_at zs _ _ _ i2
    have hkr : k < (readR zs).length := by rw [readR_len]; omega
    have hr : nthR (readR zs) k = rawAt zs (sizeTo (readR zs) k) := by
      rw [e]; unfold readR; exact nthR_map _ _ _ (by omega)
    have h1 := cnt_pos hb
    have h2 := cnt_fits hb
    have hs : sizeTo (readR zs) (k + 1) = sizeTo (readR zs) k + cntN zs (sizeTo (readR zs) k) := by
      rw [sizeTo_succ _ _ hkr, hr]
      show _ + 1 + (midL zs _ _).length = _
      rw [midL_len zs _ _ (by omega)]; omega
    rw [hs]
    refine ⟨h2, hn, ?_, ?_⟩
    · rw [← stop_go zs _ hp hb]; exact i3
    · rw [writeTo_succ _ _ _ _ hkr, i4, hr]; exact rawW_at zs hw _ hp hb

/-- The k-th place. -/
theorem place_at (zs : List Int) (hw : Within 4294967296 zs) (hh : (headE zs 0).1 = 0) (k : Nat) (hk : k < (rest zs 5).length) : (rest zs 5).getD k 0 = sizeTo (readR zs) k := by
  obtain ⟨_, i2, _, _⟩ := back_to zs hw hh k (by omega)
  have hc : (rest zs 5).drop k = (rest zs 5).getD k 0 :: (rest zs 5).drop (k + 1) := by
    rw [List.drop_eq_getElem_cons (by omega)]; simp [List.getD, hk]
  rw [hc] at i2
  exact (rest_cons_at zs _ _ _ i2).1.symm

theorem back_fault (zs : List Int) (hw : Within 4294967296 zs) (hh : (headE zs 0).1 = 0) (hl : zs.length ≤ 1048576) : ∀ d k, (readR zs).length - k = d → fault (readR zs) k = (0, 0)
  | 0, k, h => fault_end _ _ (by omega)
  | d + 1, k, h => by
    have hk : k < (readR zs).length := by omega
    have hk' : k < (rest zs 5).length := by rw [← readR_len]; exact hk
    rw [fault_step _ _ hk, if_neg, if_neg, back_fault zs hw hh hl d (k + 1) (by omega)]
    · have := (back_to zs hw hh (k + 1) (by omega)).1; omega
    · have hr : nthR (readR zs) k = rawAt zs ((rest zs 5).getD k 0) := by unfold readR; exact nthR_map _ _ _ hk'
      obtain ⟨_, h2, h3⟩ := rest_mem zs 5 ((rest zs 5).getD k 0) (by simp [List.getD, hk'])
      have hx := (hw.at h2).2
      have h4 := cnt_fits h3
      have h5 := cnt_pos h3
      rw [hr]
      show ¬ 65535 ≤ (midL zs _ _).length
      rw [midL_len zs _ _ (by omega)]
      unfold cntN at *
      omega

/-- What is read is written as it was. -/
theorem write_read (zs : List Int) (hw : Within 4294967296 zs) (h : (readE zs).1 = 0) :
    5 ≤ zs.length ∧ nth zs 3 ≠ 0 ∧ ¬ 65536 < nth zs 3 ∧ fault (readR zs) 0 = (0, 0) ∧ sizeTo (readR zs) (readR zs).length = zs.length ∧ writeTo (nth zs 2) (nth zs 3) (readR zs) (readR zs).length = zs := by
  obtain ⟨h1, h2, h3⟩ := readE_ok zs h
  obtain ⟨h4, _, h5, h6⟩ := headE_ok zs h2
  obtain ⟨i1, i2, i3, i4⟩ := back_to zs hw h2 (rest zs 5).length (Nat.le_refl _)
  rw [List.drop_length] at i2
  have hs : sizeTo (readR zs) (rest zs 5).length = zs.length := by
    have := rest_nil_stop zs _ i2
    omega
  rw [readR_len]
  refine ⟨h4, h5, h6, back_fault zs hw h2 h1 _ 0 rfl, hs, ?_⟩
  rw [i4, hs, List.take_length]

theorem sizeTo_lt (rs : List (Int × List Int)) : ∀ k j, j < k → k ≤ rs.length → sizeTo rs j < sizeTo rs k
  | 0, j, h, _ => by omega
  | k + 1, j, h, hk => by
    rw [sizeTo_succ rs k (by omega)]
    by_cases e : j = k
    · subst e; omega
    · have := sizeTo_lt rs k j (by omega) (by omega); omega

/-- The k-th instruction: its place, its operation, its words; and Find finds it. -/
theorem told_at (zs : List Int) (hw : Within 4294967296 zs) (h : (readE zs).1 = 0) (k : Nat) (hk : k < (readR zs).length) :
    (rest zs 5).getD k 0 = sizeTo (readR zs) k ∧ opI zs (sizeTo (readR zs) k) = (nthR (readR zs) k).1 ∧ midL zs (sizeTo (readR zs) k + 1) (cntN zs (sizeTo (readR zs) k) - 1) = (nthR (readR zs) k).2 ∧ cntN zs (sizeTo (readR zs) k) = (nthR (readR zs) k).2.length + 1 ∧ sizeTo (readR zs) k < zs.length := by
  have hh := (readE_ok zs h).2.1
  have hk' : k < (rest zs 5).length := by rw [← readR_len]; exact hk
  have e := place_at zs hw hh k hk'
  have hr : nthR (readR zs) k = rawAt zs (sizeTo (readR zs) k) := by rw [← e]; unfold readR; exact nthR_map _ _ _ hk'
  obtain ⟨_, h2, h3⟩ := rest_mem zs 5 ((rest zs 5).getD k 0) (by simp [List.getD, hk'])
  rw [e] at h2 h3
  have h4 := cnt_fits h3
  have h5 := cnt_pos h3
  rw [hr]
  refine ⟨e, rfl, rfl, ?_, h2⟩
  show _ = (midL zs _ _).length + 1
  rw [midL_len zs _ _ (by omega)]; omega

/-- Find finds each instruction at its place. -/
theorem find_there (zs : List Int) (k : Nat) (hk : k < (rest zs 5).length) (hinc : ∀ j, j < k → (rest zs 5).getD j 0 < (rest zs 5).getD k 0) :
    findAt zs (opI zs ((rest zs 5).getD k 0)) ((rest zs 5).getD k 0) = (((rest zs 5).getD k 0 : Nat) : Int) ∧ findIs zs (opI zs ((rest zs 5).getD k 0)) ((rest zs 5).getD k 0) = true := by
  have h : findP zs (opI zs ((rest zs 5).getD k 0)) (((rest zs 5).getD k 0 : Nat) : Int) = some ((rest zs 5).getD k 0) := by
    unfold findP
    refine find_at _ _ k hk (fun j hj => ?_) ?_
    · have := hinc j hj
      generalize (rest zs 5).getD j 0 = x at *
      generalize (rest zs 5).getD k 0 = y at *
      have hd : decide ((y : Int) ≤ (x : Int)) = false := decide_eq_false (by omega)
      unfold isAt
      rw [hd]; rfl
    · unfold isAt
      rw [decide_eq_true (Int.le_refl _)]; simp
  exact ⟨findAt_some h, findIs_some h⟩

theorem find_told (zs : List Int) (hw : Within 4294967296 zs) (h : (readE zs).1 = 0) (k : Nat) (hk : k < (readR zs).length) :
    findAt zs (nthR (readR zs) k).1 (sizeTo (readR zs) k : Nat) = (sizeTo (readR zs) k : Nat) ∧ findIs zs (nthR (readR zs) k).1 (sizeTo (readR zs) k : Nat) = true := by
  have hh := (readE_ok zs h).2.1
  have hk' : k < (rest zs 5).length := by rw [← readR_len]; exact hk
  obtain ⟨t1, t2, _⟩ := told_at zs hw h k hk
  have := find_there zs k hk' (fun j hj => by
    rw [t1, place_at zs hw hh j (by omega)]
    exact sizeTo_lt _ k j hj (by omega))
  rw [t1, t2] at this
  exact this

end Go.Proofs.Ytpggcpnjcalfaab

/-
  Plain facts on bytes that say a module: what Decode answers, as functions of the bytes; bytes to module and back, and the other way.
-/
namespace Go.Proofs.Ytpggcpnjcalfaab
open Go.RowKit
set_option linter.unusedVariables false

/-- The instruction at a place of words. -/
def instAt (zs : List Int) (b : Int) (p : Nat) : InstT × Int := instI (rawAt zs p).1 (rawAt zs p).2 b
/-- The first one that is wrong. -/
def decF (zs : List Int) (b : Int) : List Nat → Int × Nat
  | [] => (0, 0)
  | p :: ps => if (instAt zs b p).2 ≠ 0 then ((instAt zs b p).2, p) else decF zs b ps
/-- What is wrong with bytes. -/
def decE (bs : List Int) : Int × Nat :=
  if splitErr bs ≠ 0 then (splitErr bs, 0) else if (readE (splitL bs)).1 ≠ 0 then readE (splitL bs) else decF (splitL bs) (nth (splitL bs) 3) (rest (splitL bs) 5)
/-- The module's instructions. -/
def instsAt (zs : List Int) (b : Int) (ps : List Nat) : List InstT := ps.map fun p => (instAt zs b p).1
def decL (bs : List Int) : List InstT := if (decE bs).1 = 0 then instsAt (splitL bs) (nth (splitL bs) 3) (rest (splitL bs) 5) else []
def decH (bs : List Int) (i : Nat) : Int := if (decE bs).1 = 0 then nth (splitL bs) i else 0

theorem decF_app (zs : List Int) (b : Int) : ∀ (l m : List Nat), (∀ p ∈ l, (instAt zs b p).2 = 0) → decF zs b (l ++ m) = decF zs b m
  | [], m, _ => rfl
  | p :: l, m, h => by
    rw [List.cons_append, decF, if_neg (by simp [h p (by simp)])]
    exact decF_app zs b l m fun q hq => h q (by simp [hq])
theorem decF_all (zs : List Int) (b : Int) (l : List Nat) (h : ∀ p ∈ l, (instAt zs b p).2 = 0) : decF zs b l = (0, 0) := by
  have := decF_app zs b l [] h
  simpa [decF] using this
theorem decF_any (zs : List Int) (b : Int) : ∀ l : List Nat, (decF zs b l = (0, 0) ∧ ∀ p ∈ l, (instAt zs b p).2 = 0) ∨ (decF zs b l).1 ≠ 0
  | [] => .inl ⟨rfl, fun p hp => by simp at hp⟩
  | p :: l => by
    rw [decF]
    by_cases h : (instAt zs b p).2 = 0
    · rw [if_neg (by simp [h])]
      rcases decF_any zs b l with ⟨h1, h2⟩ | h1
      · refine .inl ⟨h1, fun q hq => ?_⟩
        rcases List.mem_cons.1 hq with rfl | hq
        · exact h
        · exact h2 q hq
      · exact .inr h1
    · rw [if_pos h]; exact .inr h
theorem readE_any (zs : List Int) : readE zs = (0, 0) ∨ (readE zs).1 ≠ 0 := by
  by_cases h : (readE zs).1 = 0
  · left
    obtain ⟨h1, h2, h3⟩ := readE_ok zs h
    unfold readE
    rw [if_neg (by omega), if_neg (by simp [h2]), if_neg (by omega)]
  · exact .inr h
theorem splitErr_range (bs : List Int) : splitErr bs = 0 ∨ splitErr bs ≠ 0 := by
  by_cases h : splitErr bs = 0
  · exact .inl h
  · exact .inr h
theorem decE_any (bs : List Int) : decE bs = (0, 0) ∨ (decE bs).1 ≠ 0 := by
  unfold decE
  by_cases h1 : splitErr bs = 0
  · rw [if_neg (by simp [h1])]
    by_cases h2 : (readE (splitL bs)).1 = 0
    · rw [if_neg (by simp [h2])]
      rcases decF_any (splitL bs) (nth (splitL bs) 3) (rest (splitL bs) 5) with ⟨h, _⟩ | h
      · exact .inl h
      · exact .inr h
    · rw [if_pos h2]; exact .inr h2
  · rw [if_pos h1]; exact .inr h1
/-- What was decoded. -/
theorem decE_ok {bs : List Int} (h : (decE bs).1 = 0) : splitErr bs = 0 ∧ (readE (splitL bs)).1 = 0 ∧ (∀ p ∈ rest (splitL bs) 5, (instAt (splitL bs) (nth (splitL bs) 3) p).2 = 0) ∧ decL bs = instsAt (splitL bs) (nth (splitL bs) 3) (rest (splitL bs) 5) ∧ decH bs 2 = nth (splitL bs) 2 ∧ decH bs 3 = nth (splitL bs) 3 := by
  have h0 := h
  unfold decE at h0
  by_cases h1 : splitErr bs = 0
  · rw [if_neg (by simp [h1])] at h0
    by_cases h2 : (readE (splitL bs)).1 = 0
    · rw [if_neg (by simp [h2])] at h0
      rcases decF_any (splitL bs) (nth (splitL bs) 3) (rest (splitL bs) 5) with ⟨h3, h4⟩ | h3
      · exact ⟨h1, h2, h4, by unfold decL; rw [if_pos h], by unfold decH; rw [if_pos h], by unfold decH; rw [if_pos h]⟩
      · exact absurd h0 h3
    · rw [if_pos h2] at h0; exact absurd h0 h2
  · rw [if_pos h1] at h0; exact absurd h0 h1

theorem rawAt_within {zs : List Int} (hw : Within 4294967296 zs) (p : Nat) : Within 4294967296 (rawAt zs p).2 := by
  intro z hz
  unfold rawAt midL at hz
  exact hw z (List.mem_of_mem_drop (List.mem_of_mem_take hz))

/-! ### what is read lies within its bounds -/

theorem argI_ok {c b : Int} {zs : List Int} (hw : Within 4294967296 zs) (hl : zs.length ≤ 1048576) : ArgOk (argI c zs b).1 := by
  have h0 : ArgOk noArg := ⟨by decide, by decide, by decide, by decide, by decide⟩
  unfold argI
  split
  · exact h0
  · rename_i h1
    split
    · have h2 := (textI_range zs).2.2.2.2
      exact ⟨by simp, by simp, by simp, by simp, by simp only; omega⟩
    · split
      · exact h0
      · split
        · exact h0
        · have hk := kindI_range c
          have hn := hw.at (k := 0) (by omega)
          exact ⟨by simp only; omega, by simp only; omega, hn.1, hn.2, by simp [ByteArray.size]⟩
theorem argsI_ok (f : Frm) (b : Int) : ∀ (fuel : Nat) (zs : List Int) (acc : List ArgT), Within 4294967296 zs → zs.length ≤ 1048576 → ArgsOk acc → ArgsOk (argsI f b fuel zs acc).1 ∧ (argsI f b fuel zs acc).1.length ≤ acc.length + fuel
  | 0, zs, acc, _, _, _ => by rw [argsI]; exact ⟨argsOk_nil, by simp⟩
  | fuel + 1, zs, acc, hw, hl, ha => by
    rw [argsI]
    split
    · split
      · exact ⟨ha, by simp only; omega⟩
      · exact ⟨argsOk_nil, by simp⟩
    · split
      · exact ⟨argsOk_nil, by simp⟩
      · have := argsI_ok f b fuel (zs.drop (argI (letterI f acc.length) zs b).2.1.toNat) (acc ++ [(argI (letterI f acc.length) zs b).1]) (fun z hz => hw z (List.mem_of_mem_drop hz)) (by rw [List.length_drop]; omega) (argsOk_push ha (argI_ok hw hl))
        refine ⟨this.1, ?_⟩
        have h2 := this.2
        rw [List.length_append, List.length_singleton] at h2
        omega
theorem instI_ok {op b : Int} {zs : List Int} (ho0 : 0 ≤ op) (ho1 : op < 65536) (hw : Within 4294967296 zs) : InstOk (instI op zs b).1 := by
  have h0 : InstOk noInst := ⟨by decide, by decide, by decide, by decide, by decide, by decide, argsOk_nil, by decide⟩
  unfold instI
  by_cases h1 : 65535 ≤ zs.length
  · rw [if_pos h1]; exact h0
  · rw [if_neg h1]
    split
    · exact h0
    · generalize (lookF refT op).1 = f
      unfold instF
      split
      · exact h0
      · split
        · exact h0
        · split
          · exact h0
          · have ha := argsI_ok f b (zs.length + 1) (zs.drop (f.2.1.toNat + f.2.2.1.toNat)) [] (fun z hz => hw z (List.mem_of_mem_drop hz)) (by rw [List.length_drop]; omega) argsOk_nil
            have hty : 0 ≤ (headTy f.2.1 zs b).1 ∧ (headTy f.2.1 zs b).1 < 4294967296 := by
              unfold headTy
              split
              · split
                · simp
                · exact hw.at (by omega)
              · simp
            have hre : 0 ≤ (headRes f.2.2.1 zs b f.2.1.toNat).1 ∧ (headRes f.2.2.1 zs b f.2.1.toNat).1 < 4294967296 := by
              unfold headRes
              split
              · split
                · simp
                · exact hw.at (by omega)
              · simp
            refine ⟨ho0, ho1, hty.1, hty.2, hre.1, hre.2, ha.1, ?_⟩
            have := ha.2
            simp only [List.length_nil, Nat.zero_add] at this ⊢
            omega
theorem instAt_ok {zs : List Int} (hw : Within 4294967296 zs) (b : Int) (p : Nat) : InstOk (instAt zs b p).1 := instI_ok (opI_lo _ _) (opI_hi _ _) (rawAt_within hw p)
theorem instsAt_ok {zs : List Int} (hw : Within 4294967296 zs) (b : Int) (ps : List Nat) : InstsOk (instsAt zs b ps) := by
  intro j hj
  rw [nthI_lt _ _ hj]
  simp only [instsAt, List.getElem_map]
  exact instAt_ok hw b _
theorem decL_ok {bs : List Int} (hw : Within 256 bs) : InstsOk (decL bs) := by
  unfold decL
  split
  · exact instsAt_ok (splitL_within bs hw) _ _
  · exact instsOk_nil
theorem decL_len {bs : List Int} : (decL bs).length ≤ 1048576 := by
  by_cases h : (decE bs).1 = 0
  · obtain ⟨h1, h2, h3, h4, _⟩ := decE_ok h
    have h5 := (readE_ok _ h2).1
    have h6 := rest_len (splitL bs) 5
    rw [h4]; simp only [instsAt, List.length_map]; omega
  · unfold decL; rw [if_neg h]; simp
theorem nth_range32 {zs : List Int} (hw : Within 4294967296 zs) (i : Nat) : 0 ≤ nth zs i ∧ nth zs i < 4294967296 := by
  by_cases h : i < zs.length
  · exact hw.at h
  · simp [nth, List.getD, List.getElem?_eq_none (by omega : zs.length ≤ i)]
theorem decH_range {bs : List Int} (hw : Within 256 bs) (i : Nat) : 0 ≤ decH bs i ∧ decH bs i < 4294967296 := by
  unfold decH
  split
  · exact nth_range32 (splitL_within bs hw) i
  · simp

end Go.Proofs.Ytpggcpnjcalfaab
