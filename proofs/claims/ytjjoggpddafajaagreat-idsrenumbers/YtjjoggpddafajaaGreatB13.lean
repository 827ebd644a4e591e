/-
  Texts laid together in one: Ref02Write, Ref02Find, Frame, FrameSmall, FrameMeasure, FrameWrite, CodeFronts.
-/
import Derived.WalkSpells
import Derived.BigRegion
import Derived.Deep.RegionLaw
import Derived.Deep.AppendLies
import Derived.Deep.DrawnRows
import Derived.Test.YtjjoggpddafajaaGreatB01
import Derived.Test.YtjjoggpddafajaaGreatB06
import Derived.Test.YtjjoggpddafajaaGreatB12
import Derived.Deep.QuietTactic
import Derived.BigQuiet
import Derived.Test.YtjjoggpddafajaaGreatB05
import Derived.Deep.RegionWith
import Derived.Test.YtjjoggpddafajaaGreatProg
import Derived.Test.YtjjoggpddafajaaGreatB08
import Derived.Test.YtjjoggpddafajaaGreatB04
/-
  What Write of the document's answer returns, for every head and every list of instructions: its error and its place, or the words, in new memory.
-/
namespace Go.Proofs.YtjjoggpddafajaaGreat
open Go.RowKit

theorem RefWrite.info : (Tryz.prog.info? 22).map (fun i => (i.zero, i.size, i.bytes)) = some (some (.int .u32 0), 1, 4) := by kernel_rfl

/-- An instruction's words. -/
def rawW (r : Int × List Int) : List Int := (((r.2.length : Int) + 1) * 65536 + r.1) :: r.2
/-- The words of the head and of the first k instructions. -/
def writeTo (gen bound : Int) (rs : List (Int × List Int)) (k : Nat) : List Int := [119734787, 65536, gen, bound, 0] ++ (rs.take k).flatMap rawW

theorem writeTo_succ (gen bound : Int) (rs : List (Int × List Int)) (k : Nat) (h : k < rs.length) : writeTo gen bound rs (k + 1) = writeTo gen bound rs k ++ rawW (nthR rs k) := by
  have e : rs.take (k + 1) = rs.take k ++ [nthR rs k] := by
    rw [List.take_succ_eq_append_getElem h]; simp [nthR, List.getD, h]
  rw [writeTo, e, List.flatMap_append, ← List.append_assoc]; simp [writeTo]
theorem writeTo_len (gen bound : Int) (rs : List (Int × List Int)) : ∀ k, k ≤ rs.length → (writeTo gen bound rs k).length = sizeTo rs k
  | 0, _ => rfl
  | k + 1, h => by
    rw [writeTo_succ gen bound rs k (by omega), List.length_append, writeTo_len gen bound rs k (by omega), sizeTo_succ rs k (by omega)]
    simp [rawW]; omega

end Go.Proofs.YtjjoggpddafajaaGreat

/-
  What Find of the document's answer returns, of at most 1048576 words.
-/
namespace Go.Proofs.YtjjoggpddafajaaGreat
open Go.RowKit
set_option maxRecDepth 10000

theorem find_at (P : Nat → Bool) : ∀ (l : List Nat) (k : Nat), k < l.length → (∀ j, j < k → P (l.getD j 0) = false) → P (l.getD k 0) = true → l.find? P = some (l.getD k 0)
  | [], k, h, _, _ => by simp at h
  | x :: l, 0, _, _, h => by
    have h' : P x = true := h
    simp [h']
  | x :: l, k + 1, h, hb, hk => by
    have h0 : P x = false := hb 0 (by omega)
    have ih := find_at P l k (by simpa using h) (fun j hj => hb (j + 1) (by omega)) hk
    rw [List.find?_cons, h0]
    exact ih
theorem find_none (P : Nat → Bool) (l : List Nat) (h : ∀ j, j < l.length → P (l.getD j 0) = false) : l.find? P = none := by
  rw [List.find?_eq_none]
  intro x hx
  obtain ⟨j, hj, rfl⟩ := List.getElem_of_mem hx
  have := h j hj
  simp [List.getD, hj] at this
  simp [this]

/-- Is it an instruction of this operation, not ahead of that place? -/
def isAt (zs : List Int) (op from_ : Int) (q : Nat) : Bool := decide (from_ ≤ (q : Int)) && (opI zs q == op)
/-- The first one. -/
def findP (zs : List Int) (op from_ : Int) : Option Nat := (rest zs 5).find? (isAt zs op from_)
def findAt (zs : List Int) (op from_ : Int) : Int := match findP zs op from_ with | some q => (q : Int) | none => 0
def findIs (zs : List Int) (op from_ : Int) : Bool := (findP zs op from_).isSome

theorem findAt_some {zs : List Int} {op f : Int} {q : Nat} (h : findP zs op f = some q) : findAt zs op f = q := by unfold findAt; rw [h]
theorem findAt_none {zs : List Int} {op f : Int} (h : findP zs op f = none) : findAt zs op f = 0 := by unfold findAt; rw [h]
theorem findIs_some {zs : List Int} {op f : Int} {q : Nat} (h : findP zs op f = some q) : findIs zs op f = true := by unfold findIs; rw [h]; rfl
theorem findIs_none {zs : List Int} {op f : Int} (h : findP zs op f = none) : findIs zs op f = false := by unfold findIs; rw [h]; rfl

theorem ret_pair {k : IntKind} {a b : Int} {x y : Bool} (h : a = b) (h2 : x = y) : Ending.returned (.tuple #[.int k a, .bool x]) = .returned (.tuple #[.int k b, .bool y]) := by rw [h, h2]

end Go.Proofs.YtjjoggpddafajaaGreat

/-
  What the calls of layer 2 answer, as functions on lists; what the document's answer returns; and what is asked of the program's calls (as conditions, each proved where the program's text is walked).
-/
namespace Go.Proofs.YtjjoggpddafajaaGreat
open Go.RowKit

def readL (zs : List Int) : List (Int × List Int) := if (readE zs).1 = 0 then readR zs else []
def readAt (zs : List Int) (i : Nat) : Int := if (readE zs).1 = 0 then nth zs i else 0
def writeE (bound : Int) (rs : List (Int × List Int)) : Int × Nat := if bound = 0 ∨ 65536 < bound then (24, 0) else fault rs 0
def writeL (gen bound : Int) (rs : List (Int × List Int)) : List Int := if (writeE bound rs).1 = 0 then writeTo gen bound rs rs.length else []

/-- What is asked of Read. -/
def ReadC (f : Nat) : Prop := ∀ (a : Option Addr) (n cap : Nat) (zs : List Int) (w : World), View .u32 w a zs → zs.length = n → Within 4294967296 zs → 4 * n ≤ 140737488351232 → n ≤ cap →
  Calls Tryz.prog f #[.slice a n cap] w fun e w' => Below w.heap.size w w' ∧ ∃ ax cx m, e = .returned (.tuple #[.agg #[.int .u32 (readAt zs 2), .int .u32 (readAt zs 3)], .slice ax m cx, .agg #[.int .i64 (readE zs).1, .int .i64 (readE zs).2]]) ∧ (readL zs).length = m ∧ OwnR w' w.heap.size ax 0 (readL zs)
/-- What is asked of Write. -/
def WriteC (f : Nat) : Prop := ∀ (gen bound : Int) (a : Option Addr) (n cap : Nat) (rs : List (Int × List Int)) (w : World), 0 ≤ gen → gen < 4294967296 → 0 ≤ bound → bound < 4294967296 → RawsV w a rs → RawsOk rs → rs.length = n → 32 * n ≤ 140737488351232 → n ≤ cap →
  Calls Tryz.prog f #[.agg #[.int .u32 gen, .int .u32 bound], .slice a n cap] w fun e w' => Below w.heap.size w w' ∧ ∃ ax cx m, e = .returned (.tuple #[.slice ax m cx, .agg #[.int .i64 (writeE bound rs).1, .int .i64 (writeE bound rs).2]]) ∧ (writeL gen bound rs).length = m ∧
    w'.ownsRow w.heap.size 22 1 (.slice ax m cx) m ((writeL gen bound rs).map (Value.int .u32))
/-- What is asked of Size. -/
def SizeC (f : Nat) : Prop := ∀ (a : Option Addr) (n cap : Nat) (rs : List (Int × List Int)) (w : World), RawsV w a rs → RawsOk rs → rs.length = n → 32 * n ≤ 140737488351232 → n ≤ cap →
  Calls Tryz.prog f #[.slice a n cap] w fun e w' => e = .returned (.tuple #[.int .i64 (sizeOut rs), .int .i64 (fault rs 0).1]) ∧ Below w.heap.size w w'
/-- What is asked of Find. -/
def FindC (f : Nat) : Prop := ∀ (a : Option Addr) (n cap : Nat) (zs : List Int) (op from_ : Int) (w : World), View .u32 w a zs → zs.length = n → Within 4294967296 zs → 4 * n ≤ 140737488351232 → n ≤ cap → 0 ≤ op → op < 65536 → -9223372036854775808 ≤ from_ → from_ ≤ 9223372036854775807 →
  Calls Tryz.prog f #[.slice a n cap, .int .u16 op, .int .i64 from_] w fun e w' => e = .returned (.tuple #[.int .i64 (findAt zs op from_), .bool (findIs zs op from_)]) ∧ Below w.heap.size w w'

end Go.Proofs.YtjjoggpddafajaaGreat

/-
  The small functions of frame: a first word parted and made, how many words an instruction has, whether a bound may be.
-/
namespace Go.Proofs.YtjjoggpddafajaaGreat
open Go.RowKit
set_option maxRecDepth 10000

theorem mayBeBound_any (x : Int) (w : World) (h0 : 0 ≤ x) (h1 : x < 4294967296) :
    Calls Tryz.prog 65 #[.int .u32 x] w fun e w' => e = .returned (.bool (!(decide (x = 0) || decide (65536 < x)))) ∧ w = w' := by
  go_enter Tryz.func65, Tryz.ntmps65
  go_wp2
  · go_ret
    refine ⟨?_, rfl⟩
    have hx : 1 ≤ x := by assumption
    show Ending.returned (.bool (decide (x ≤ 65536))) = _
    congr 2
    by_cases h : x ≤ 65536
    · simp [h, show ¬ x = 0 by omega]
    · simp [h]; omega
  · go_ret
    refine ⟨?_, rfl⟩
    have hx : ¬ 1 ≤ x := by first | assumption | (have : x < 1 := by assumption
                                                  omega)
    obtain rfl : x = 0 := by omega
    rfl

theorem wordsOf_any (op : Int) (a : Option Addr) (n cap : Nat) (w : World) (hn : n ≤ 140737488351232) :
    Calls Tryz.prog 71 #[.agg #[.int .u16 op, .slice a n cap]] w fun e w' => e = .returned (.int .i64 ((n : Int) + 1)) ∧ w.alloc (.cells #[.int .u16 op, .slice a n cap] 104) = w' := by
  go_enter Tryz.func71, Tryz.ntmps71
  go_wp2
  go_ret
  exact ⟨ret_int (by omega), rfl⟩

theorem firstWord_any (op : Int) (a : Option Addr) (n cap : Nat) (w : World) (hn : n < 65535) (ho : 0 ≤ op) (ho2 : op < 65536) :
    Calls Tryz.prog 67 #[.agg #[.int .u16 op, .slice a n cap]] w fun e w' => e = .returned (.int .u32 (((n : Int) + 1) * 65536 + op)) ∧ Below w.heap.size w w' := by
  have hW := fun w => wordsOf_any op a n cap w (by omega)
  go_enter Tryz.func67, Tryz.ntmps67
  go_wp2_with fail
  go_region_with (go_at_call 71; refine (hW _).mono ?_; rintro e w' ⟨rfl, rfl⟩)
  all_goals go_wp2
  all_goals go_ret
  all_goals refine ⟨?_, (((Below.refl _ _).alloc (Nat.le_refl _) _).alloc (by simp) _).drew⟩
  all_goals
    show Ending.returned (.int .u32 (bits .or .u32 (IntKind.u32.wrap (IntKind.u32.wrap ((n : Int) + 1) * 65536)) (IntKind.u32.wrap op))) = _
    apply ret_int
    rw [show IntKind.u32.wrap ((n : Int) + 1) = (n : Int) + 1 by rw [IntKind.wrap_u32']; omega, show IntKind.u32.wrap (((n : Int) + 1) * 65536) = ((n : Int) + 1) * 65536 by rw [IntKind.wrap_u32']; omega, show IntKind.u32.wrap op = op by rw [IntKind.wrap_u32']; omega]
    exact or_high ((n : Int) + 1) op 16 (by omega) ho (by omega) (by omega)

end Go.Proofs.YtjjoggpddafajaaGreat

/-
  What measure and Size of frame return: how many words the head and the instructions have, or the first instruction that may not be.
-/
namespace Go.Proofs.YtjjoggpddafajaaGreat
open Go.RowKit

theorem fault_any (rs : List (Int × List Int)) : fault rs 0 = (0, 0) ∨ (fault rs 0).1 ≠ 0 := by
  have key : ∀ f k, faultF rs f k = (0, 0) ∨ (faultF rs f k).1 ≠ 0 := by
    intro f
    induction f with
    | zero => intro k; exact .inl rfl
    | succ f ih =>
      intro k
      rw [faultF]
      split
      · split
        · exact .inr (by simp)
        · split
          · exact .inr (by simp)
          · exact ih (k + 1)
      · exact .inl rfl
  exact key _ _

theorem spot_set {w : World} {g T : Nat} {a b : Value} (h : w.heap[g]? = some (.cells #[a, b] T (0, 0))) (u0 u1 : Value) :
    ((w.setCell ⟨g, 0, none⟩ u0).setCell ⟨g, 1, none⟩ u1).cell? ⟨g, 0, none⟩ = some u0 ∧ ((w.setCell ⟨g, 0, none⟩ u0).setCell ⟨g, 1, none⟩ u1).cell? ⟨g, 1, none⟩ = some u1 := by
  have hfin : ((w.setCell ⟨g, 0, none⟩ u0).setCell ⟨g, 1, none⟩ u1).heap[g]? = some (.cells #[u0, u1] T (0, 0)) := by
    simp only [World.setCell, Array.getElem?_modify, h]; simp
  obtain ⟨z0, z1, _⟩ := cell_of_two hfin
  exact ⟨z0, z1⟩

theorem cell_past {w : World} {g j : Nat} {o : Obj} {v : Value} (h : w.cell? ⟨g, j, none⟩ = some v) : (w.alloc o).cell? ⟨g, j, none⟩ = some v := by
  rw [World.cell?_alloc_past _ _ _ (World.block_lt_of_cell? _ _ h)]; exact h

set_option maxRecDepth 100000 in
set_option maxHeartbeats 2000000 in
theorem measure_any (a : Option Addr) (n cap : Nat) (rs : List (Int × List Int)) (w : World) (ha : RawsV w a rs) (hok : RawsOk rs) (hl : rs.length = n) (hn : 32 * n ≤ 140737488351232) :
    Calls Tryz.prog 66 #[.slice a n cap] w fun e w' => e = .returned (.tuple #[.int .i64 (sizeOut rs), .agg #[.int .i64 (fault rs 0).1, .int .i64 (fault rs 0).2]]) ∧ Below w.heap.size w w' := by
  have HL : Hid (rs.length = n) := hl
  clear hl
  go_enter Tryz.func66, Tryz.ntmps66
  go_wp2
  go_loopw [4, 9] (fun s i wr => ∃ k : Nat, k ≤ n ∧ i = .int .i64 k ∧ s = .int .i64 (sizeTo rs k) ∧ sizeTo rs k ≤ 1048576 ∧ fault rs 0 = fault rs k ∧ wr.heap[w.heap.size]? = some (.cells #[.int .i64 0, .int .i64 0] 28 (0, 0)) ∧ Below w.heap.size w wr) (fun _ i _ => n - (intOf i).toNat)
  case atStart => exact ⟨0, Nat.zero_le _, rfl, rfl, by rw [sizeTo_zero]; omega, rfl, heap_alloc_new w _, (Below.refl _ _).alloc (Nat.le_refl _) _⟩
  case round =>
    obtain ⟨k, hk, rfl, rfl, hsz, hfe, hbox, hnx⟩ := hrel
    have HF : Hid (fault rs 0 = fault rs k) := hfe
    clear hfe
    have hlt0 : w.heap.size < wr.heap.size := (Array.getElem?_eq_some_iff.1 hbox).1
    by_cases hlt : k < n
    · obtain ⟨b, off, aj, cj, nj, rfl, hbs, p1, p2, p3, _, _⟩ := ha k (by rw [HL.out]; exact hlt)
      obtain ⟨_, _, _, h4⟩ := hok k (by rw [HL.out]; exact hlt)
      rw [p3] at h4
      have HS : Hid (sizeTo rs (k + 1) = sizeTo rs k + 1 + (nthR rs k).2.length) := sizeTo_succ rs k (by rw [HL.out]; exact hlt)
      have HT := fault_step rs k (by rw [HL.out]; exact hlt)
      rw [p3] at HT HS
      have HT' : Hid (fault rs k = if 65535 ≤ nj then (25, k) else if 1048576 < sizeTo rs (k + 1) then (4, k) else fault rs (k + 1)) := HT
      have q1 := (hnx.cell (p := ⟨b, off + k * 2, none⟩) hbs).trans p1
      have q2 := (hnx.cell (p := ⟨b, off + k * 2 + 1, none⟩) hbs).trans p2
      generalize sizeTo rs k = s at hsz HS
      have hki : (k : Int) < (n : Int) := by omega
      have hk0 : (0 : Int) ≤ (k : Int) := by omega
      have hW := fun op w => wordsOf_any op aj nj cj w (by omega)
      generalize (nthR rs k).1 = op at q1 p1
      clear HT ha p1 p2 p3 hok
      obtain ⟨R1, hR1⟩ : ∃ o, o = Obj.cells #[.int .u16 op, .slice aj nj cj] 104 (0, 0) := ⟨_, rfl⟩
      have hbx1 : ((wr.alloc R1).alloc R1).heap[w.heap.size]? = some (.cells #[.int .i64 0, .int .i64 0] 28 (0, 0)) := (Below.heap_alloc _ _ _ (by simp; omega)).trans ((Below.heap_alloc _ _ _ hlt0).trans hbox)
      obtain ⟨c0, c1, f1⟩ := cell_of_two hbox
      have f0 : wr.frozen? ⟨w.heap.size, 0, none⟩ = false := by simp [World.frozen?, hbox]
      by_cases h1 : 65535 ≤ nj
      · have b1 : decide ((65535 : Int) < (nj : Int) + 1) = true := decide_eq_true (by omega)
        have HE : Hid (fault rs 0 = (25, k)) := by show _ = _; rw [HF.out, HT'.out, if_pos h1]
        have HO : Hid (sizeOut rs = 0) := by show _ = _; unfold sizeOut; rw [HE.out]; rfl
        have hf0 := spot_set hbox (.int .i64 25) (.int .i64 k)
        have hf := And.intro (cell_past (o := R1) (cell_past (o := R1) hf0.1)) (cell_past (o := R1) (cell_past (o := R1) hf0.2))
        have HZ : Hid (_ ∧ _) := hf
        have HB : Hid (Below w.heap.size w ((((wr.setCell ⟨w.heap.size, 0, none⟩ (.int .i64 25)).setCell ⟨w.heap.size, 1, none⟩ (.int .i64 k)).alloc R1).alloc R1)) := (((hnx.setCell (by simp) _).setCell (by simp) _).alloc (by simp; omega) _).alloc (by simp; omega) _
        clear hf hf0 hbx1 hbox
        subst hR1
        go_wp2_with (go_at_call 71; refine (hW _ _).mono ?_; rintro e w' ⟨rfl, rfl⟩)
        exact bodyPost_ret (v := .tuple #[.int .i64 0, .agg #[.int .i64 25, .int .i64 k]]) (by simp [results, Tryz.results66, go_sem, HZ.out.1, HZ.out.2]) rfl ⟨by rw [HE.out, HO.out], HB.out⟩
      · have b1 : decide ((65535 : Int) < (nj : Int) + 1) = false := decide_eq_false (by omega)
        have hbx2 : (((wr.alloc R1).alloc R1).alloc R1).heap[w.heap.size]? = some (.cells #[.int .i64 0, .int .i64 0] 28 (0, 0)) := (Below.heap_alloc _ _ _ (by simp; omega)).trans hbx1
        have HB2 : Hid (Below w.heap.size w (((wr.alloc R1).alloc R1).alloc R1)) := ((hnx.alloc hnx.size _).alloc (by simp; omega) _).alloc (by simp; omega) _
        by_cases h2 : 1048576 < s + 1 + nj
        · have b2 : decide ((1048576 : Int) < (s : Int) + ((nj : Int) + 1)) = true := decide_eq_true (by omega)
          have HE : Hid (fault rs 0 = (4, k)) := by show _ = _; rw [HF.out, HT'.out, if_neg h1, if_pos (by rw [HS.out]; exact h2)]
          have HO : Hid (sizeOut rs = 0) := by show _ = _; unfold sizeOut; rw [HE.out]; rfl
          have hf := spot_set hbx2 (.int .i64 4) (.int .i64 k)
          obtain ⟨c0', c1', f1'⟩ := cell_of_two hbx2
          have f0' : (((wr.alloc R1).alloc R1).alloc R1).frozen? ⟨w.heap.size, 0, none⟩ = false := by simp only [World.frozen?, hbx2]; rfl
          have HZ : Hid (_ ∧ _) := hf
          have HB : Hid (Below w.heap.size w (((((wr.alloc R1).alloc R1).alloc R1).setCell ⟨w.heap.size, 0, none⟩ (.int .i64 4)).setCell ⟨w.heap.size, 1, none⟩ (.int .i64 k))) := (HB2.out.setCell (by simp) _).setCell (by simp) _
          clear hf hbx1 hbx2 hbox
          subst hR1
          go_wp2_with (go_at_call 71; refine (hW _ _).mono ?_; rintro e w' ⟨rfl, rfl⟩)
          exact bodyPost_ret (v := .tuple #[.int .i64 0, .agg #[.int .i64 4, .int .i64 k]]) (by simp [results, Tryz.results66, go_sem, HZ.out.1, HZ.out.2]) rfl ⟨by rw [HE.out, HO.out], HB.out⟩
        · have b2 : decide ((1048576 : Int) < (s : Int) + ((nj : Int) + 1)) = false := decide_eq_false (by omega)
          have HE : Hid (fault rs 0 = fault rs (k + 1)) := by show _ = _; rw [HF.out, HT'.out, if_neg h1, if_neg (by rw [HS.out]; exact h2)]
          have HX : Hid _ := hbx2
          clear hbx1 hbx2 hbox
          subst hR1
          go_wp2_with (go_at_call 71; refine (hW _ _).mono ?_; rintro e w' ⟨rfl, rfl⟩)
          go_roundw
          case rel => exact ⟨k + 1, by omega, by go_num, by rw [HS.out]; go_num, by rw [HS.out]; omega, HE.out, HX.out, HB2.out⟩
          case measure => simp [intOf]; omega
    · obtain rfl : k = n := by omega
      have HE : Hid (fault rs 0 = (0, 0)) := by show _ = _; rw [HF.out]; exact fault_end rs k (by rw [HL.out]; omega)
      have HO : Hid (sizeOut rs = sizeTo rs k) := by show _ = _; unfold sizeOut; rw [HE.out, if_pos rfl, HL.out]
      have hf := spot_set hbox (.int .i64 0) (.int .i64 0)
      obtain ⟨c0, c1, f1⟩ := cell_of_two hbox
      have f0 : wr.frozen? ⟨w.heap.size, 0, none⟩ = false := by simp [World.frozen?, hbox]
      have HZ : Hid (_ ∧ _) := hf
      have HB : Hid (Below w.heap.size w ((wr.setCell ⟨w.heap.size, 0, none⟩ (.int .i64 0)).setCell ⟨w.heap.size, 1, none⟩ (.int .i64 0))) := (hnx.setCell (by simp) _).setCell (by simp) _
      clear hf hbox ha hok
      go_wp2
      exact bodyPost_ret (v := .tuple #[.int .i64 (sizeTo rs k), .agg #[.int .i64 0, .int .i64 0]]) (by simp [results, Tryz.results66, go_sem, HZ.out.1, HZ.out.2]) rfl ⟨by rw [HE.out, HO.out]; rfl, HB.out⟩

end Go.Proofs.YtjjoggpddafajaaGreat

/-
  What Write of frame returns, for every head and every list of instructions: its error and its place, or the words, in new memory.
-/
namespace Go.Proofs.YtjjoggpddafajaaGreat
open Go.RowKit

theorem write_bound (gen bound : Int) (a : Option Addr) (n cap : Nat) (w : World) (hb0 : 0 ≤ bound) (hb1 : bound < 4294967296) (hb : bound = 0 ∨ 65536 < bound) :
    Calls Tryz.prog 59 #[.agg #[.int .u32 gen, .int .u32 bound], .slice a n cap] w fun e w' => e = .returned (.tuple #[.slice none 0 0, .agg #[.int .i64 24, .int .i64 0]]) ∧ Below w.heap.size w w' := by
  have hM := fun w => mayBeBound_any bound w hb0 hb1
  have e1 : (!(decide (bound = 0) || decide (65536 < bound))) = false := by rcases hb with h1 | h1 <;> simp [h1]
  rw [e1] at hM
  clear hb e1
  go_enter Tryz.func59, Tryz.ntmps59
  go_wp2_with (go_at_call 65; refine (hM _).mono ?_; rintro e w' ⟨rfl, rfl⟩)
  exact bodyPost_ret (v := .tuple #[.slice none 0 0, .agg #[.int .i64 24, .int .i64 0]]) (by simp [results, Tryz.results59, go_sem]) rfl ⟨rfl, ((Below.refl _ _).alloc (Nat.le_refl _) _).alloc (by simp) _⟩

theorem bound_ok {bound : Int} (hb1 : ¬ bound = 0) (hb2 : ¬ 65536 < bound) : (!(decide (bound = 0) || decide (65536 < bound))) = true := by simp [hb1]; omega

set_option maxRecDepth 100000 in
set_option maxHeartbeats 4000000 in
theorem write_fault (gen bound : Int) (a : Option Addr) (n cap : Nat) (rs : List (Int × List Int)) (w : World) (hb0 : 0 ≤ bound) (hb1 : ¬ bound = 0) (hb2 : ¬ 65536 < bound) (ha : RawsV w a rs) (hok : RawsOk rs) (hl : rs.length = n) (hn : 32 * n ≤ 140737488351232) (hz : ¬ (fault rs 0).1 = 0) :
    Calls Tryz.prog 59 #[.agg #[.int .u32 gen, .int .u32 bound], .slice a n cap] w fun e w' => e = .returned (.tuple #[.slice none 0 0, .agg #[.int .i64 (fault rs 0).1, .int .i64 (fault rs 0).2]]) ∧ Below w.heap.size w w' := by
  have hF := fun wx (hb : Below w.heap.size w wx) => measure_any a n cap rs wx (ha.below hb) hok hl hn
  have hM := fun w => mayBeBound_any bound w hb0 (by omega)
  rw [bound_ok hb1 hb2] at hM
  have hzb : ((fault rs 0).1 == 0) = false := by simpa using hz
  clear hz
  generalize (fault rs 0).1 = er at hF hzb ⊢
  generalize (fault rs 0).2 = at_ at hF ⊢
  generalize sizeOut rs = so at hF
  clear hl hb1 hb2
  go_enter Tryz.func59, Tryz.ntmps59
  go_wp2_with (go_at_call 65; refine (hM _).mono ?_; rintro e w' ⟨rfl, rfl⟩)
  refine (hF _ (((Below.refl _ w).alloc (Nat.le_refl _) (.cells #[.int .u32 gen, .int .u32 bound] 101)).alloc (by simp) (.cells #[.int .i64 0, .int .i64 0] 28))).mono ?_
  rintro e w1 ⟨rfl, hbF⟩
  have hres1 : w1.heap[w.heap.size + 1]? = some (.cells #[.int .i64 0, .int .i64 0] 28 (0, 0)) := by
    rw [hbF.block _ (by simp)]
    have := heap_alloc_new (w.alloc (.cells #[.int .u32 gen, .int .u32 bound] 101)) (.cells #[.int .i64 0, .int .i64 0] 28)
    simpa using this
  have s1 : w.heap.size + 2 ≤ w1.heap.size := by have := hbF.size; simp at this; omega
  have hbw1 : Below w.heap.size w w1 := (((Below.refl _ w).alloc (Nat.le_refl _) _).alloc (by simp) _).trans (hbF.mono (by simp; omega))
  have hres2 := (Below.heap_alloc w1 (.cells #[.int .i64 er, .int .i64 at_] 28) _ (by omega)).trans hres1
  have hbw2 := hbw1.alloc (by omega) (.cells #[.int .i64 er, .int .i64 at_] 28)
  obtain ⟨c0, c1, f1⟩ := cell_of_two hres2
  have f0 : (w1.alloc (.cells #[.int .i64 er, .int .i64 at_] 28)).frozen? ⟨w.heap.size + 1, 0, none⟩ = false := by simp [World.frozen?, hres2]
  have hz := spot_set hres2 (.int .i64 er) (.int .i64 at_)
  have HZ : Hid (_ ∧ _) := hz
  have HB : Hid _ := hbw2
  clear hz hres1 hres2 hbw1 hbF hF hbw2 hM
  go_wp2
  go_region
  all_goals
    go_wp2
    exact bodyPost_ret (v := .tuple #[.slice none 0 0, .agg #[.int .i64 er, .int .i64 at_]]) (by simp [results, Tryz.results59, go_sem, HZ.out.1, HZ.out.2]) rfl ⟨rfl, by first | exact ((HB.out.setCell (by simp) _).setCell (by simp) _).drew | exact ((HB.out.drew.setCell (by simp) _).setCell (by simp) _) | exact ((HB.out.setCell (by simp) _).setCell (by simp) _)⟩

set_option maxRecDepth 100000 in
set_option maxHeartbeats 4000000 in
theorem write_ok (gen bound : Int) (a : Option Addr) (n cap : Nat) (rs : List (Int × List Int)) (w : World) (hb0 : 0 ≤ bound) (hb1 : ¬ bound = 0) (hb2 : ¬ 65536 < bound) (ha : RawsV w a rs) (hok : RawsOk rs) (hl : rs.length = n) (hn : 32 * n ≤ 140737488351232) (hz : fault rs 0 = (0, 0)) :
    Calls Tryz.prog 59 #[.agg #[.int .u32 gen, .int .u32 bound], .slice a n cap] w fun e w' => ∃ ax cx m, e = .returned (.tuple #[.slice ax m cx, .agg #[.int .i64 0, .int .i64 0]]) ∧ (writeTo gen bound rs n).length = m ∧
      w'.ownsRow w.heap.size 22 1 (.slice ax m cx) m ((writeTo gen bound rs n).map (Value.int .u32)) ∧ Below w.heap.size w w' := by
  obtain ⟨i0, hi, hz0, hz1, hz2⟩ := info_parts RefWrite.info
  have HL : Hid (rs.length = n) := hl
  have HN : Hid (∀ k, k ≤ n → sizeTo rs k ≤ 1048576 ∧ ∀ j, j < k → (nthR rs j).2.length < 65535) := by
    have := fault_none rs (by rw [hz])
    rw [hl] at this
    exact this
  have HWL : Hid (∀ k, k ≤ n → (writeTo gen bound rs k).length = sizeTo rs k) := fun k hk => writeTo_len gen bound rs k (by omega)
  have HWS : Hid (∀ k, k < n → writeTo gen bound rs (k + 1) = writeTo gen bound rs k ++ rawW (nthR rs k)) := fun k hk => writeTo_succ gen bound rs k (by omega)
  have hF := fun wx (hb : Below w.heap.size w wx) => measure_any a n cap rs wx (ha.below hb) hok hl hn
  have hM := fun w => mayBeBound_any bound w hb0 (by omega)
  rw [bound_ok hb1 hb2] at hM
  have hso : sizeOut rs = (sizeTo rs n : Int) := by unfold sizeOut; rw [hz, if_pos rfl, hl]
  rw [hz, hso] at hF
  have hsn := (HN.out n (Nat.le_refl _)).1
  generalize hsn' : sizeTo rs n = sn at hsn hF
  clear hl hz hb1 hb2 hso
  go_enter Tryz.func59, Tryz.ntmps59
  go_wp2_with (go_at_call 65; refine (hM _).mono ?_; rintro e w' ⟨rfl, rfl⟩)
  refine (hF _ (((Below.refl _ w).alloc (Nat.le_refl _) (.cells #[.int .u32 gen, .int .u32 bound] 101)).alloc (by simp) (.cells #[.int .i64 0, .int .i64 0] 28))).mono ?_
  rintro e w1 ⟨rfl, hbF⟩
  have hres1 : w1.heap[w.heap.size + 1]? = some (.cells #[.int .i64 0, .int .i64 0] 28 (0, 0)) := by
    rw [hbF.block _ (by simp)]
    have := heap_alloc_new (w.alloc (.cells #[.int .u32 gen, .int .u32 bound] 101)) (.cells #[.int .i64 0, .int .i64 0] 28)
    simpa using this
  have hbox1 : w1.heap[w.heap.size]? = some (.cells #[.int .u32 gen, .int .u32 bound] 101 (0, 0)) := by
    rw [hbF.block _ (by simp; omega), Below.heap_alloc _ _ _ (by simp)]
    exact heap_alloc_new w _
  have s1 : w.heap.size + 2 ≤ w1.heap.size := by have := hbF.size; simp at this; omega
  have hbw1 : Below w.heap.size w w1 := (((Below.refl _ w).alloc (Nat.le_refl _) _).alloc (by simp) _).trans (hbF.mono (by simp; omega))
  clear hF hbF hM
  go_wp2_with (at_make; refine wpList_make_own _ rfl _ _ 36 rfl (w.heap.size + 2) 22 i0 (.int .u32 0) 1 Tryz.underlying36 hi hz0 hz1 _ _ _ sn rfl rfl (by omega) (by rw [hz2]; omega) (by unfold maxLen; omega) (by simp; omega) ?_)
  intro w2 hown2 hgrow2
  have s2 := hgrow2.size
  simp only [World.size_alloc] at hown2 s2
  have hres2 : w2.heap[w.heap.size + 1]? = some (.cells #[.int .i64 0, .int .i64 0] 28 (0, 0)) := (hgrow2.block _ (by simp; omega) (by simp)).trans ((Below.heap_alloc w1 _ _ (by omega)).trans hres1)
  have hbox2 := (hgrow2.block w.heap.size (by simp; omega) (by simp)).trans ((Below.heap_alloc w1 _ _ (by omega)).trans hbox1)
  have hbw2 : Below w.heap.size w w2 := (hbw1.alloc (by omega) _).grown hgrow2 (by simp; omega) (fun k hk => by cases hk)
  obtain ⟨c0, c1, _⟩ := cell_of_two hbox2
  clear hgrow2 hres1 hbox1 hbox2 hbw1
  generalize w1.heap.size = G at *
  go_wp2_with (at_builtin; refine wpList_append_lies _ rfl (.tmp 27) (.tmp 32) 36 rfl (w.heap.size + 2) 22 i0 (.int .u32 0) 1 4 Tryz.underlying36 hi hz0 hz1 hz2 rfl (by omega) (.slice (some ⟨G + 1, 0, none⟩) 0 sn) 0 [] rfl (hown2.alloc _) ⟨w2.heap.size, 0, none⟩ 5 5 [.int .u32 119734787, .int .u32 65536, .int .u32 gen, .int .u32 bound, .int .u32 0] rfl rfl (World.news_of_block (cs := #[.int .u32 119734787, .int .u32 65536, .int .u32 gen, .int .u32 bound, .int .u32 0]) (t := 22) (fr := (0, 0)) (heap_alloc_new w2 _)) (by simp [Value.oneCell']) (by omega) (by unfold maxLen; omega) (by omega) (by simp; omega) (w2.heap.size + 1) (by simp) ?_)
  intro g3 cap3 w3 hown3 hgrow3 hat3 hlt3
  have hres3 := (hgrow3.block (w.heap.size + 1) (by simp; omega) (fun e => by simp [Value.ownBlock] at e; omega)).trans ((Below.heap_alloc w2 _ _ (by omega)).trans hres2)
  have hbw3 : Below w.heap.size w w3 := (hbw2.alloc (by omega) _).grown hgrow3 (by simp; omega) (fun k hk => by simp [Value.ownBlock] at hk; omega)
  clear hgrow3 hat3 hown2 hres2 hbw2 hlt3 c0 c1
  go_wp2
  go_loopw [8, 36] (fun v i wr => ∃ (k : Nat), k ≤ n ∧ i = .int .i64 k ∧ wr.ownsRow (w.heap.size + 2) 22 1 v (sizeTo rs k) ((writeTo gen bound rs k).map (Value.int .u32)) ∧
      wr.heap[w.heap.size + 1]? = some (.cells #[.int .i64 0, .int .i64 0] 28 (0, 0)) ∧ Below w.heap.size w wr)
    (fun _ i _ => n - (intOf i).toNat)
  case atStart => exact ⟨0, Nat.zero_le _, rfl, by simpa [writeTo, sizeTo] using hown3, hres3, hbw3⟩
  case round =>
    obtain ⟨k, hk, rfl, hown, hres, hnx⟩ := hrel
    obtain ⟨ax, cx, rfl⟩ := own_shape hown
    clear hown3 hres3 hbw3
    have hsz := hnx.size
    have hlt1 : w.heap.size + 1 < wr.heap.size := (Array.getElem?_eq_some_iff.1 hres).1
    have hob : ∀ j, Value.ownBlock (.slice ax (sizeTo rs k) cx) = some j → w.heap.size + 2 ≤ j ∧ j < wr.heap.size := fun j hj => by
      rcases hown.2 with ⟨h1, _⟩ | ⟨g, c, cur, h1, h2, h3, _⟩
      · rw [h1] at hj; simp [Value.ownBlock] at hj
      · rw [h1] at hj; simp [Value.ownBlock] at hj; subst hj; exact ⟨h2, (Array.getElem?_eq_some_iff.1 h3).1⟩
    by_cases hlt : k < n
    · obtain ⟨b, off, aj, cj, nj, rfl, hbs, p1, p2, p3, p4, _⟩ := ha k (by rw [HL.out]; exact hlt)
      obtain ⟨o1, o2, _, _⟩ := hok k (by rw [HL.out]; exact hlt)
      have HS : Hid (sizeTo rs (k + 1) = sizeTo rs k + 1 + nj) := by show _ = _; rw [sizeTo_succ rs k (by rw [HL.out]; exact hlt), p3]
      have h1 := (HN.out k hk).1
      have h2 := (HN.out (k + 1) hlt).1
      have h3 := (HN.out (k + 1) hlt).2 k (by omega)
      rw [HS.out] at h2
      rw [p3] at h3
      have HWK : Hid (writeTo gen bound rs (k + 1) = writeTo gen bound rs k ++ ((((nj : Int) + 1) * 65536 + (nthR rs k).1) :: (nthR rs k).2)) := by
        show _ = _; rw [HWS.out k hlt, rawW, p3]
      have HP3 : Hid ((nthR rs k).2.length = nj) := p3
      have q1 := (hnx.cell (p := ⟨b, off + k * 2, none⟩) hbs).trans p1
      have q2 := (hnx.cell (p := ⟨b, off + k * 2 + 1, none⟩) hbs).trans p2
      have hki : (k : Int) < (n : Int) := by omega
      have hk0 : (0 : Int) ≤ (k : Int) := by omega
      have hW := fun wx => firstWord_any (nthR rs k).1 aj nj cj wx h3 o1 o2
      clear p1 p2 p3 hok ha
      generalize hs : sizeTo rs k = s at *
      generalize writeTo gen bound rs k = ws at *
      generalize (nthR rs k).1 = op at *
      generalize (nthR rs k).2 = ms at *
      go_wp2_with fail
      refine (hW _).mono ?_
      rintro e w4 ⟨rfl, hb4⟩
      have s4 := hb4.size
      simp only [World.size_alloc] at s4
      have hown4 := own_below (hown.alloc (.cells #[.int .u16 op, .slice aj nj cj] 104)) hb4
      have hr4 := (hb4.block wr.heap.size (by simp)).trans (heap_alloc_new wr (.cells #[.int .u16 op, .slice aj nj cj] 104))
      have hres4 := (hb4.block (w.heap.size + 1) (by simp; omega)).trans ((Below.heap_alloc wr _ _ hlt1).trans hres)
      have hbw4 : Below w.heap.size w w4 := (hnx.alloc hsz _).trans (hb4.mono (by simp; omega))
      clear hb4 hW q1 q2 hown hres hnx
      go_wp2_with (at_builtin; refine wpList_append_lies _ rfl (.tmp 40) (.tmp 43) 36 rfl (w.heap.size + 2) 22 i0 (.int .u32 0) 1 4 Tryz.underlying36 hi hz0 hz1 hz2 rfl (by omega) (.slice ax s cx) s _ rfl (hown4.alloc _) ⟨w4.heap.size, 0, none⟩ 1 1 [.int .u32 (((nj : Int) + 1) * 65536 + op)] rfl rfl (World.news_of_block (cs := #[.int .u32 (((nj : Int) + 1) * 65536 + op)]) (t := 22) (fr := (0, 0)) (heap_alloc_new w4 _)) (by simp [Value.oneCell']) (by omega) (by unfold maxLen; omega) (by omega) (by simp; omega) (w4.heap.size + 1) (by simp) ?_)
      intro g5 cap5 w5 hown5 hgrow5 hat5 hlt5
      have hr5 := (hgrow5.block wr.heap.size (by simp; omega) (fun e => by have := (hob _ e.symm).2; omega)).trans ((Below.heap_alloc w4 _ _ (by omega)).trans hr4)
      have hres5 := (hgrow5.block (w.heap.size + 1) (by simp; omega) (fun e => by have := (hob _ e.symm).1; omega)).trans ((Below.heap_alloc w4 _ _ (by omega)).trans hres4)
      have hbw5 : Below w.heap.size w w5 := (hbw4.alloc (by omega) _).grown hgrow5 (by simp; omega) (fun k hk => (by have := (hob k hk).1; omega))
      have s5 := hgrow5.size
      simp only [World.size_alloc] at s5
      obtain ⟨d0, d1, _⟩ := cell_of_two hr5
      have hg5 : w.heap.size + 2 ≤ g5 := by
        rcases hat5 with h | h
        · exact (hob _ h).1
        · omega
      clear hgrow5 hat5 hown4 hr4 hres4 hbw4 hob hr5
      have hown6 : w5.ownsRow (w.heap.size + 2) 22 1 (.slice (some ⟨g5, 0, none⟩) (s + 1) cap5) (s + 1) ((ws ++ [((nj : Int) + 1) * 65536 + op]).map (Value.int .u32)) := by simpa using hown5
      clear hown5
      by_cases hnj : nj = 0
      · subst hnj
        have hms : ms = [] := List.eq_nil_of_length_eq_zero HP3.out
        subst hms
        have hcap : s + 1 ≤ cap5 := by
          rcases hown6.2 with ⟨h, _⟩ | ⟨g, c', cur, h, _, _, h4, _⟩
          · simp at h
          · cases h; exact h4
        go_wp2_with (at_builtin; refine append_run _ rfl (.tmp 45) (.tmp 47) 36 rfl (.slice (some ⟨g5, 0, none⟩) (s + 1) cap5) (.slice aj 0 cj) _ _ rfl rfl (fun ty => run_append_nothing _ _ ty 22 i0 Tryz.underlying36 hi (some ⟨g5, 0, none⟩) (s + 1) cap5 hcap aj cj) ?_)
        go_wp2
        go_roundw
        case rel => exact ⟨k + 1, by omega, by go_num, by rw [HWK.out, HS.out]; simpa using hown6, hres5, hbw5⟩
        case measure => simp [intOf]; omega
      · obtain ⟨b6, off6, rfl, _, _⟩ := p4 0 (by rw [HP3.out]; omega)
        have hv5 := p4.below hbw5
        have hnews : ∀ j u, (ms.map (Value.int .u32))[j]? = some u → w5.cell? ((⟨b6, off6, none⟩ : Addr).add j) = some u := by
          intro j u hj
          rw [List.getElem?_map] at hj
          have hjl : j < ms.length := by
            rcases Nat.lt_or_ge j ms.length with h | h
            · exact h
            · rw [List.getElem?_eq_none h] at hj; simp at hj
          obtain ⟨b', off', e', _, hc'⟩ := hv5 j hjl
          simp at e'
          obtain ⟨rfl, rfl⟩ := e'
          rw [Addr.add_lit, hc', ← hj, List.getElem?_eq_getElem hjl]
          simp [nth, List.getD, hjl]
        clear p4 hv5
        go_wp2_with (at_builtin; refine wpList_append_lies _ rfl (.tmp 45) (.tmp 47) 36 rfl (w.heap.size + 2) 22 i0 (.int .u32 0) 1 4 Tryz.underlying36 hi hz0 hz1 hz2 rfl (by omega) (.slice (some ⟨g5, 0, none⟩) (s + 1) cap5) (s + 1) _ rfl hown6 ⟨b6, off6, none⟩ nj cj (ms.map (Value.int .u32)) rfl (by rw [List.length_map, HP3.out]; omega) hnews (ints_oneCell .u32 ms) (by omega) (by unfold maxLen; omega) (by omega) (by omega) w5.heap.size rfl ?_)
        intro g7 cap7 w7 hown7 hgrow7 hat7 hlt7
        have hres7 := (hgrow7.block (w.heap.size + 1) (by omega) (fun e => by simp [Value.ownBlock] at e; omega)).trans hres5
        have hbw7 : Below w.heap.size w w7 := hbw5.grown hgrow7 hbw5.size (fun k hk => by simp [Value.ownBlock] at hk; omega)
        clear hgrow7 hat7 hown6 hres5 hbw5 hnews d0 d1
        go_wp2
        go_roundw
        case rel => exact ⟨k + 1, by omega, by go_num, by rw [HWK.out, HS.out]; simpa using hown7, hres7, hbw7⟩
        case measure => simp [intOf]; omega
    · obtain rfl : k = n := by omega
      obtain ⟨c0, c1, f1⟩ := cell_of_two hres
      have f0 : wr.frozen? ⟨w.heap.size + 1, 0, none⟩ = false := by simp [World.frozen?, hres]
      have hz := spot_set hres (.int .i64 0) (.int .i64 0)
      have HZ : Hid (_ ∧ _) := hz
      clear hz hres ha hok hob
      go_wp2
      refine bodyPost_ret (v := .tuple #[.slice ax (sizeTo rs k) cx, .agg #[.int .i64 0, .int .i64 0]]) (by simp [results, Tryz.results59, go_sem, HZ.out.1, HZ.out.2]) rfl ⟨ax, cx, _, rfl, HWL.out k hk, ?_, ?_⟩
      · exact own_base (ownsRow_setCell_below (ownsRow_setCell_below hown (by simp) _) (by simp) _) (by omega)
      · exact (hnx.setCell (by simp) _).setCell (by simp) _

/-- Write answers as is asked of it. -/
theorem writeC : WriteC 59 := by
  intro gen bound a n cap rs w _ _ hb0 hb3 ha hok hl hn _
  by_cases h1 : bound = 0 ∨ 65536 < bound
  · have e1 : writeE bound rs = (24, 0) := by unfold writeE; rw [if_pos h1]
    refine (write_bound gen bound a n cap w hb0 hb3 h1).mono ?_
    rintro e w' ⟨rfl, hb⟩
    refine ⟨hb, none, 0, 0, ?_, ?_, ?_⟩
    · simp [e1]
    · simp [writeL, e1]
    · simp only [writeL, e1]; exact World.ownsRow_nil _ _ _ _
  · have e1 : writeE bound rs = fault rs 0 := by unfold writeE; rw [if_neg h1]
    have h2 : ¬ bound = 0 := fun h => h1 (.inl h)
    have h3 : ¬ 65536 < bound := fun h => h1 (.inr h)
    rcases fault_any rs with hz | hz
    · refine (write_ok gen bound a n cap rs w hb0 h2 h3 ha hok hl hn hz).mono ?_
      rintro e w' ⟨ax, cx, m, rfl, h4, h5, hb⟩
      have e2 : writeL gen bound rs = writeTo gen bound rs n := by unfold writeL; rw [e1, hz, if_pos rfl, hl]
      refine ⟨hb, ax, cx, m, ?_, ?_, ?_⟩
      · rw [e1, hz]; rfl
      · rw [e2]; exact h4
      · rw [e2]; exact h5
    · refine (write_fault gen bound a n cap rs w hb0 h2 h3 ha hok hl hn hz).mono ?_
      rintro e w' ⟨rfl, hb⟩
      have e2 : writeL gen bound rs = [] := by unfold writeL; rw [e1, if_neg hz]
      refine ⟨hb, none, 0, 0, ?_, ?_, ?_⟩
      · rw [e1]
      · rw [e2]; rfl
      · rw [e2]; exact World.ownsRow_nil _ _ _ _

end Go.Proofs.YtjjoggpddafajaaGreat

/-
  headOf and frontOf of the package code: what they answer.
-/
namespace Go.Proofs.YtjjoggpddafajaaGreat
open Go.RowKit

theorem headOf_any (g b : Int) (a : Option Addr) (n c : Nat) (w : World) :
    Calls Tryz.prog 60 #[modV g b a n c] w fun e w' => e = .returned (.agg #[.int .u32 g, .int .u32 b]) ∧ Below w.heap.size w w' := by
  unfold modV
  go_enter Tryz.func60, Tryz.ntmps60
  go_wp2
  refine bodyPost_ret (v := .agg #[.int .u32 g, .int .u32 b]) ?_ rfl ⟨rfl, ?_⟩
  · simp [results, Tryz.results60, go_sem]
  · exact two_boxes w _ _

end Go.Proofs.YtjjoggpddafajaaGreat
