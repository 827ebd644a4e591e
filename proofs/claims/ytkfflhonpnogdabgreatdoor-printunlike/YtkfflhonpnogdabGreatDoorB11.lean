/-
  Texts laid together in one: MathDg, StrconvFormatUint, Toks, MathY, MathH, GrammarFormTexts, Ref03Letter, Ref03All, Ref03Named, MathA, MathA2, MathWt, PrintSmall, Slots.
-/
import Derived.WalkSpells
import Derived.Test.YtkfflhonpnogdabGreatDoorB10
import Derived.WalkMore
import Derived.Shelf.LaysM
import Derived.Shelf.Strconv.Itoa1
import Derived.Shelf.Strconv.Itoa2
import Derived.Lib.ItoaMem
import Derived.Lib.AppendIntMem
import Derived.BigCall
import Derived.BigGuard
import Derived.Test.YtkfflhonpnogdabGreatDoorProg
import Derived.RangeFuncNested
import Derived.RangeFuncBound
import Derived.RangeFuncCalls
import Derived.RangeFuncLeaves
import Derived.Shelf.Abstract
import Derived.Shelf.RegionOpen
import Derived.WalkKit
import Derived.OwnWalkIn
import Derived.TacticsInMore
import Derived.LoopNIn
import Derived.LoopIn
import Derived.Test.YtkfflhonpnogdabGreatDoorB05
import Derived.Test.YtkfflhonpnogdabGreatDoorB04
import Derived.Deep.QuietTactic
import Derived.BigQuiet
import Derived.Laws.AppendOwn
import Derived.Deep.AppendLies
import Derived.Test.YtkfflhonpnogdabGreatDoorB07
import Derived.BigRegion
import Derived.Test.YtkfflhonpnogdabGreatDoorB03
/-
  Numbers in digits: in plain mathematics.
-/
namespace Go.Proofs.YtkfflhonpnogdabGreatDoor
open Go.RowKit
set_option linter.unusedSimpArgs false
set_option maxRecDepth 10000
set_option linter.unusedVariables false

/-- A number in digits. -/
def dgL (n : Nat) : List Int := if n ≤ 9 then [48 + (n : Int)] else dgL (n / 10) ++ [48 + ((n % 10 : Nat) : Int)]
termination_by n
decreasing_by omega

theorem dgL_small {n : Nat} (h : n ≤ 9) : dgL n = [48 + (n : Int)] := by rw [dgL, if_pos h]
theorem dgL_big {n : Nat} (h : ¬ n ≤ 9) : dgL n = dgL (n / 10) ++ [48 + ((n % 10 : Nat) : Int)] := by rw [dgL, if_neg h]
theorem dv_dg (d : Nat) (h : d ≤ 9) : dvI (48 + (d : Int)) = d ∧ digitB (48 + (d : Int)) = true := by
  have hd : digitB (48 + (d : Int)) = true := by simp [digitB]; omega
  refine ⟨?_, hd⟩
  unfold dvI
  rw [if_pos (digit_hex hd)]
  unfold worthI
  rw [if_pos (by omega)]
  omega
theorem dgL_facts : ∀ n : Nat, valF 10 0 (dgL n) = n ∧ allD 10 (dgL n) = true ∧ (0 < (dgL n).length) ∧ (1 ≤ n → nth (dgL n) 0 ≠ 48) ∧ (1 < (dgL n).length → 9 < n) ∧ Within 256 (dgL n) ∧ (∀ z ∈ dgL n, 48 ≤ z ∧ z ≤ 57) := by
  intro n
  induction n using Nat.strongRecOn with
  | _ n ih =>
    by_cases h : n ≤ 9
    · obtain ⟨d1, d2⟩ := dv_dg n h
      rw [dgL_small h]
      refine ⟨?_, ?_, by simp, ?_, by simp, within_one (by omega) (by omega), ?_⟩
      · simp [valF, d1]
      · simp [allD, d1]; omega
      · intro h1; simp [nth]; omega
      · intro z hz; have := List.mem_singleton.1 hz; omega
    · obtain ⟨i1, i2, i3, i4, i5, i6, i7⟩ := ih (n / 10) (by omega)
      obtain ⟨d1, d2⟩ := dv_dg (n % 10) (by omega)
      rw [dgL_big h]
      refine ⟨?_, ?_, by simp, ?_, fun _ => by omega, within_appX i6 (within_one (by omega) (by omega)), ?_⟩
      · rw [valF_snoc, i1, d1]; omega
      · simp only [allD, List.all_append, Bool.and_eq_true] at i2 ⊢
        exact ⟨i2, by simp only [List.all_cons, List.all_nil, Bool.and_true, decide_eq_true_eq]; rw [d1]; omega⟩
      · intro _
        rw [getD_left _ _ _ i3]
        exact i4 (by omega)
      · intro z hz
        rcases List.mem_append.1 hz with hz | hz
        · exact i7 z hz
        · have := List.mem_singleton.1 hz; omega
theorem dgL_len : ∀ (k n : Nat), n < 10 ^ (k + 1) → (dgL n).length ≤ k + 1 := by
  intro k
  induction k with
  | zero => intro n h; rw [dgL_small (by omega)]; simp
  | succ k ih =>
    intro n h
    by_cases h9 : n ≤ 9
    · rw [dgL_small h9]; simp
    · rw [dgL_big h9, List.length_append]
      have := ih (n / 10) (by rw [Nat.pow_succ] at h; omega)
      simp; omega
theorem dgL_plain {n : Nat} (h : n < 4294967296) : plainB (dgL n) = true := by
  obtain ⟨h1, h2, h3, h4, h5, _⟩ := dgL_facts n
  have e : (decide (1 < (dgL n).length) && nth (dgL n) 0 == 48) = false := by
    cases e : (decide (1 < (dgL n).length) && nth (dgL n) 0 == 48)
    · rfl
    · simp at e
      exact absurd e.2 (h4 (by have := h5 e.1; omega))
  have e2 : (dgL n).isEmpty = false := by
    cases e : dgL n with
    | nil => rw [e] at h3; simp at h3
    | cons a r => rfl
  simp only [plainB, digsB, e, e2, h1, h2]
  simp; omega
theorem dgL_num {n : Nat} (h : n < 4294967296) : numB (dgL n) = true ∧ numV (dgL n) = (n : Int) := by
  obtain ⟨h1, h2, h3, h4, h5, _, h7⟩ := dgL_facts n
  have e1 : ¬ (dgL n).take 1 = [45] := fun e => by
    have : (45 : Int) ∈ dgL n := List.mem_of_mem_take (by rw [e]; simp : (45 : Int) ∈ (dgL n).take 1)
    have := h7 _ this; omega
  have e2 : ¬ (dgL n).take 2 = [48, 120] := fun e => by
    have : (120 : Int) ∈ dgL n := List.mem_of_mem_take (by rw [e]; simp : (120 : Int) ∈ (dgL n).take 2)
    have := h7 _ this; omega
  unfold numB numV
  rw [if_neg e1, if_neg e1, if_neg e2, if_neg e2]
  exact ⟨dgL_plain h, h1⟩
/-- The same as a text. -/
def dgS (n : Int) : ByteArray := strOfNums (dgL n.toNat)
theorem strI_dgS (n : Int) : strI (dgS n) = dgL n.toNat := strI_of (dgL_facts _).2.2.2.2.2.1
theorem dgS_size {n : Int} (h : n < 4294967296) : (dgS n).size ≤ 10 := by
  rw [← strI_len, strI_dgS]; exact dgL_len 9 _ (by omega)

end Go.Proofs.YtkfflhonpnogdabGreatDoor

/-
  strconv.FormatUint at base 10: a number in digits (the library's contracts of what it calls, laid at this program; its table is a package variable).
-/
namespace Go.Proofs.YtkfflhonpnogdabGreatDoor
open Go.RowKit Go.Shelf Go.Sort Go.Lib
set_option maxRecDepth 10000
set_option linter.unusedVariables false
set_option linter.unusedSimpArgs false

def Fsm.ren : Go.Shelf.Ren := ⟨fun | 283 => 166 | n => n, fun | 3 => 3 | 4 => 4 | 9 => 9 | n => n, fun  | n => n⟩
theorem Fsm.lays : Go.Proofs.Lays.n283 Tryz.prog Fsm.ren := {
  mixed := by kernel_rfl
  f283 := Tryz.func166.trans (congrArg some (by kernel_rfl))
  t3 := Tryz.underlying3
  a3 := Tryz.isAgg3
  z3 := Tryz.sizeOf3
  v3 := Tryz.zeroValue3
  t4 := Tryz.underlying4
  a4 := Tryz.isAgg4
  z4 := Tryz.sizeOf4
  v4 := Tryz.zeroValue4
  t9 := Tryz.underlying9
  a9 := Tryz.isAgg9
  z9 := Tryz.sizeOf9
  v9 := Tryz.zeroValue9 }

def Fnd.ren : Go.Shelf.Ren := ⟨fun | 129 => 178 | 284 => 167 | 317 => 177 | 318 => 179 | n => n, fun | 0 => 0 | 3 => 3 | 4 => 4 | 5 => 5 | 9 => 9 | 46 => 184 | 53 => 136 | 212 => 261 | n => n, fun | 17 => 1 | n => n⟩
theorem Fnd.lays : Go.Proofs.LaysM.n284 Tryz.prog Fnd.ren := {
  mixed := by kernel_rfl
  f129 := Tryz.func178.trans (congrArg some (by kernel_rfl))
  f284 := Tryz.func167.trans (congrArg some (by kernel_rfl))
  f317 := Tryz.func177.trans (congrArg some (by kernel_rfl))
  f318 := Tryz.func179.trans (congrArg some (by kernel_rfl))
  t0 := Tryz.underlying0
  a0 := Tryz.isAgg0
  z0 := Tryz.sizeOf0
  v0 := Tryz.zeroValue0
  t3 := Tryz.underlying3
  a3 := Tryz.isAgg3
  z3 := Tryz.sizeOf3
  v3 := Tryz.zeroValue3
  t4 := Tryz.underlying4
  a4 := Tryz.isAgg4
  z4 := Tryz.sizeOf4
  v4 := Tryz.zeroValue4
  t5 := Tryz.underlying5
  a5 := Tryz.isAgg5
  z5 := Tryz.sizeOf5
  v5 := Tryz.zeroValue5
  t9 := Tryz.underlying9
  a9 := Tryz.isAgg9
  z9 := Tryz.sizeOf9
  v9 := Tryz.zeroValue9
  t46 := Tryz.underlying184
  a46 := Tryz.isAgg184
  z46 := Tryz.sizeOf184
  v46 := Tryz.zeroValue184
  t53 := Tryz.underlying136
  a53 := Tryz.isAgg136
  z53 := Tryz.sizeOf136
  v53 := Tryz.zeroValue136
  t212 := Tryz.underlying261
  a212 := Tryz.isAgg261
  z212 := Tryz.sizeOf261
  v212 := Tryz.zeroValue261
  g17 := by kernel_rfl
  i0 := by kernel_rfl
  i3 := by kernel_rfl
  i4 := by kernel_rfl
  i5 := by kernel_rfl
  i9 := by kernel_rfl
  i46 := by kernel_rfl
  i53 := by kernel_rfl
  i212 := by kernel_rfl
  m17 := by kernel_rfl }

def Ffb.ren : Go.Shelf.Ren := ⟨fun | 285 => 168 | n => n, fun | 0 => 0 | 3 => 3 | 4 => 4 | 5 => 5 | 9 => 9 | 37 => 58 | 51 => 22 | 53 => 136 | n => n, fun  | n => n⟩
theorem Ffb.lays : Go.Proofs.Lays.n285 Tryz.prog Ffb.ren := {
  mixed := by kernel_rfl
  f285 := Tryz.func168.trans (congrArg some (by kernel_rfl))
  t0 := Tryz.underlying0
  a0 := Tryz.isAgg0
  z0 := Tryz.sizeOf0
  v0 := Tryz.zeroValue0
  t3 := Tryz.underlying3
  a3 := Tryz.isAgg3
  z3 := Tryz.sizeOf3
  v3 := Tryz.zeroValue3
  t4 := Tryz.underlying4
  a4 := Tryz.isAgg4
  z4 := Tryz.sizeOf4
  v4 := Tryz.zeroValue4
  t5 := Tryz.underlying5
  a5 := Tryz.isAgg5
  z5 := Tryz.sizeOf5
  v5 := Tryz.zeroValue5
  t9 := Tryz.underlying9
  a9 := Tryz.isAgg9
  z9 := Tryz.sizeOf9
  v9 := Tryz.zeroValue9
  t37 := Tryz.underlying58
  a37 := Tryz.isAgg58
  z37 := Tryz.sizeOf58
  v37 := Tryz.zeroValue58
  t51 := Tryz.underlying22
  a51 := Tryz.isAgg22
  z51 := Tryz.sizeOf22
  v51 := Tryz.zeroValue22
  t53 := Tryz.underlying136
  a53 := Tryz.isAgg136
  z53 := Tryz.sizeOf136
  v53 := Tryz.zeroValue136 }

/-- The table that the number of digits is told by. -/
def Pow10 (w : World) : Prop := Lib.TabIs Tryz.prog w "internal/strconv.uint64pow10" .u64 Lib.pow10Tab
theorem dec_dg : ∀ u : Nat, (⟨(Lib.decDigits u).toArray⟩ : ByteArray) = strOfNums (dgL u) := by
  intro u
  induction u using Nat.strongRecOn with
  | _ u ih =>
    by_cases h : u < 10
    · rw [Lib.decDigits, dif_pos h, dgL_small (by omega)]
      have : ∀ m : Fin 10, (⟨([UInt8.ofNat (48 + m.val)] : List UInt8).toArray⟩ : ByteArray) = strOfNums [48 + (m.val : Int)] := by decide
      exact this ⟨u, h⟩
    · rw [Lib.decDigits, dif_neg h, dgL_big (by omega), strOfNums_append, ← ih (u / 10) (by omega)]
      have : ∀ m : Fin 10, (⟨([UInt8.ofNat (48 + m.val)] : List UInt8).toArray⟩ : ByteArray) = strOfNums [48 + (m.val : Int)] := by decide
      rw [← this ⟨u % 10, by omega⟩]
      apply ByteArray.ext
      simp
theorem small_any (i : Nat) (h : i < 100) (w : World) : Calls Tryz.prog 166 #[.int .i64 i] w fun e w' => e = .returned (.string (strOfNums (dgL i))) ∧ w' = w := by
  have := Any.internal_strconv_small Fsm.lays i h w
  rw [dec_dg] at this
  exact this
theorem numDigits_any (u : Nat) (h1 : 1 ≤ u) (h2 : u < 18446744073709551616) (w : World) (ht : Pow10 w) : Calls Tryz.prog 167 #[.int .u64 u] w fun e w' => e = .returned (.int .i64 (Lib.nDigits u)) ∧ w' = w := Any.internal_strconv_numDigits Fnd.lays u h1 h2 w ht
theorem putRow_below (w : World) (o : Obj) (dk : Array UInt8) (k : Nat) : Below w.heap.size w ((putRow (fun (b : UInt8) => Value.int .u8 (b.toNat : Int)) (w.alloc o) w.heap.size 0 dk).drewN k) := by
  refine bel_drewN ?_ k
  have h0 := (Below.refl _ w).alloc (Nat.le_refl _) o
  refine ⟨h0.os, h0.tape, h0.output, ?_, fun i hi => ?_⟩
  · simp [putRow, mapBlock]
  · rw [← h0.block i hi]
    simp [putRow, mapBlock, Array.getElem?_modify]
    omega

set_option maxHeartbeats 6400000 in
set_option maxRecDepth 100000 in
theorem intFormatUint_any (u : Nat) (hu64 : u < 18446744073709551616) (w : World) (ht : Pow10 w) :
    Calls Tryz.prog 152 #[.int .u64 u, .int .i64 10] w fun e w' => e = .returned (.string (strOfNums (dgL u))) ∧ Below w.heap.size w w' := by
  by_cases hs : u < 100
  · have hsm := small_any u hs w
    have hlt : (u : Int) < 100 := by omega
    go_enter Tryz.func152, Tryz.ntmps152
    go_wp2_with fail
    refine hsm.mono ?_
    rintro e w' ⟨rfl, rfl⟩
    go_wp2_with fail
    go_ret
    exact ⟨rfl, Below.refl _ _⟩
  · have hnd20 : Lib.nDigits u ≤ 20 := by have := Lib.numDigits_eq u (by omega) hu64; split at this <;> omega
    have hge : decide ((u : Int) < 100) = false := by simp; omega
    have hge2 : decide (u < 100) = false := by simp; omega
    have hn := numDigits_any u (by omega) hu64 _ (Lib.tabIs_alloc ht (.cells Lib.zeros24 250))
    have hH0 := Lib.holds_zero0 w 250 (Lib.nDigits u) (by omega)
    have hfmt := Any.internal_strconv_formatBase10 Ffb.lays w.heap.size 0 24 u (Array.replicate (Lib.nDigits u) 0) (w.alloc (.cells Lib.zeros24 250)) hH0 (by rw [Array.size_replicate]; exact Lib.lt_pow_nDigits u) hu64 (by rw [Array.size_replicate]; omega)
    rw [Array.size_replicate] at hfmt
    have HH0 := Lib.hid hH0
    have hal : Tryz.prog.arrayLen 250 = 24 := by kernel_rfl
    have hsl : ∀ W, (Instr.sliceAt 250 (.pointer (some ⟨w.heap.size, 0, none⟩)) none (some (.int .i64 (Lib.nDigits u : Int))) none).run Tryz.prog W = .ok (.slice (some ⟨w.heap.size, 0, none⟩) (Lib.nDigits u) 24) W := fun W => by
      rw [run_sliceAt_array_h W 250 ⟨w.heap.size, 0, none⟩ (by kernel_rfl) .i64 (Lib.nDigits u : Int) (by omega) (by rw [hal]; omega)]
      go_simp
    clear hH0 hal hs
    go_enter Tryz.func152, Tryz.ntmps152
    go_wp2_with fail
    refine hn.mono ?_
    rintro e w' ⟨rfl, rfl⟩
    clear hn ht
    go_wp2_with fail
    refine hfmt.mono ?_
    rintro e w' ⟨rfl, k, v', dk, rfl, hF⟩
    have hcv : (convert 58 9 (.slice (some ⟨w.heap.size, 0, none⟩) (Lib.nDigits u) 24)).run Tryz.prog ((putRow (fun (b : UInt8) => Value.int .u8 (b.toNat : Int)) (w.alloc (.cells Lib.zeros24 250)) w.heap.size 0 dk).drewN k) = .ok (.string ⟨(Lib.decDigits u).toArray⟩) ((putRow (fun (b : UInt8) => Value.int .u8 (b.toNat : Int)) (w.alloc (.cells Lib.zeros24 250)) w.heap.size 0 dk).drewN k) := by
      have h := run_convert_bytes_back (P := Tryz.prog) ((putRow (fun (b : UInt8) => Value.int .u8 (b.toNat : Int)) (w.alloc (.cells Lib.zeros24 250)) w.heap.size 0 dk).drewN k) 58 9 5 ⟨w.heap.size, 0, none⟩ 24 (Lib.decDigits u) Tryz.underlying58 Tryz.underlying5 Tryz.underlying9 (fun j hj => by
        rw [Lib.row_is_numeral hF j hj, Lib.add_plain, World.cell?_drewN]
        exact cell?_putRow (fun (b : UInt8) => Value.int .u8 (b.toNat : Int)) _ w.heap.size 0 _ dk HH0.out (by rw [hF.size, Array.size_replicate]) j (by rw [hF.size]; rw [Lib.decDigits_length] at hj; exact hj))
      rw [Lib.decDigits_length] at h
      exact h
    have HB := Lib.hid (putRow_below w (.cells Lib.zeros24 250) dk k)
    rw [dec_dg] at hcv
    generalize (putRow (fun (b : UInt8) => Value.int .u8 (b.toNat : Int)) (w.alloc (.cells Lib.zeros24 250)) w.heap.size 0 dk).drewN k = W9 at *
    clear hfmt HH0
    go_wp2_with fail
    go_ret
    exact ⟨rfl, HB.out⟩
theorem formatUint_any (u : Nat) (hu64 : u < 18446744073709551616) (w : World) (ht : Pow10 w) :
    Calls Tryz.prog 124 #[.int .u64 u, .int .i64 10] w fun e w' => e = .returned (.string (strOfNums (dgL u))) ∧ Below w.heap.size w w' := by
  have hC := intFormatUint_any u hu64 w ht
  go_enter Tryz.func124, Tryz.ntmps124
  go_wp2_with fail
  refine hC.mono ?_
  rintro e w' ⟨rfl, hb⟩
  go_wp2_with fail
  go_ret
  exact ⟨rfl, hb⟩

end Go.Proofs.YtkfflhonpnogdabGreatDoor

/-
  Tokens in memory: what can be read of them.
-/
namespace Go.Proofs.YtkfflhonpnogdabGreatDoor
open Go.RowKit
set_option linter.unusedSimpArgs false
set_option linter.unusedVariables false

def tokV (x : TokT) : Value := .agg #[.int .u8 x.1, .string x.2.1, .int .i64 x.2.2]
def tokC (x : TokT) : List Value := [.int .u8 x.1, .string x.2.1, .int .i64 x.2.2]

/-- What can be read of a slice of tokens. -/
def ToksV (w : World) (a : Option Addr) (l : List TokT) : Prop :=
  ∀ j, j < l.length → ∃ b off, a = some ⟨b, off, none⟩ ∧ b < w.heap.size ∧ w.cell? ⟨b, off + j * 3, none⟩ = some (.int .u8 (nthT l j).1) ∧ w.cell? ⟨b, off + j * 3 + 1, none⟩ = some (.string (nthT l j).2.1) ∧ w.cell? ⟨b, off + j * 3 + 2, none⟩ = some (.int .i64 (nthT l j).2.2)

def TokIn (x : TokT) : Prop := 0 ≤ x.1 ∧ x.1 < 256 ∧ x.2.1.size ≤ 140737488351232 ∧ -9223372036854775808 ≤ x.2.2 ∧ x.2.2 < 9223372036854775808
/-- Each kind, text and place lies within its bounds. -/
def ToksIn (l : List TokT) : Prop := ∀ j, j < l.length → TokIn (nthT l j)

theorem ToksV.below {w w' : World} {a : Option Addr} {l : List TokT} (h : ToksV w a l) (hb : Below w.heap.size w w') : ToksV w' a l := by
  intro j hj
  obtain ⟨b, off, e, hlt, h1, h2, h3⟩ := h j hj
  exact ⟨b, off, e, Nat.lt_of_lt_of_le hlt hb.size, (hb.cell (p := ⟨b, off + j * 3, none⟩) hlt).trans h1, (hb.cell (p := ⟨b, off + j * 3 + 1, none⟩) hlt).trans h2, (hb.cell (p := ⟨b, off + j * 3 + 2, none⟩) hlt).trans h3⟩
theorem ToksV.drew {w : World} {a : Option Addr} {l : List TokT} (h : ToksV w a l) (q : Nat) : ToksV (w.drewN q) a l := h.below (bel_drewN (Below.refl _ _) q)

theorem nthT_lt (l : List TokT) (j : Nat) (h : j < l.length) : nthT l j = l[j] := by simp [nthT, List.getD, h]
theorem flatT_at (l : List TokT) (j : Nat) (h : j < l.length) : (l.flatMap tokC)[j * 3]? = some (.int .u8 (nthT l j).1) ∧ (l.flatMap tokC)[j * 3 + 1]? = some (.string (nthT l j).2.1) ∧ (l.flatMap tokC)[j * 3 + 2]? = some (.int .i64 (nthT l j).2.2) := by
  induction l generalizing j with
  | nil => simp at h
  | cons x l ih =>
    cases j with
    | zero => simp [tokC, nthT]
    | succ j =>
      have := ih j (by simpa using h)
      rw [show (j + 1) * 3 = 3 + j * 3 by omega]
      have e : ∀ i, (List.flatMap tokC (x :: l))[3 + i]? = (l.flatMap tokC)[i]? := fun i => by
        rw [List.flatMap_cons, List.getElem?_append_right (by simp [tokC])]
        congr 1; simp [tokC]
      rw [e, show 3 + j * 3 + 1 = 3 + (j * 3 + 1) by omega, e, show 3 + j * 3 + 2 = 3 + (j * 3 + 2) by omega, e]
      have e2 : nthT (x :: l) (j + 1) = nthT l j := by simp [nthT, List.getD]
      rw [e2]; exact this
/-- What the call owns can be read. -/
theorem ToksV.ofRow {w : World} {B e g n cap : Nat} {l : List TokT} (h : w.ownsRow B e 3 (.slice (some ⟨g, 0, none⟩) n cap) n (l.flatMap tokC)) (hl : l.length = n) : ToksV w (some ⟨g, 0, none⟩) l := by
  intro j hj
  have hc := h.cells (g := g) rfl
  obtain ⟨h0, h1, h2⟩ := flatT_at l j hj
  have c0 := hc _ _ h0
  have c1 := hc _ _ h1
  have c2 := hc _ _ h2
  rw [Addr.add_lit, Nat.zero_add] at c0 c1 c2
  refine ⟨g, 0, rfl, World.block_lt_of_cell? _ _ c0, ?_, ?_, ?_⟩
  · rw [Nat.zero_add]; exact c0
  · rw [Nat.zero_add]; exact c1
  · rw [Nat.zero_add]; exact c2

end Go.Proofs.YtkfflhonpnogdabGreatDoor

/-
  The layer lex: what a line's tokens are: each may be; how long; where what is wrong stands; a note behind a line changes nothing. No condition but what each names.
-/
namespace Go.Proofs.YtkfflhonpnogdabGreatDoor
open Go.RowKit
set_option linter.unusedSimpArgs false
set_option linter.unusedVariables false

/-! ### tokens that are written anew -/

theorem placed_len (l : List TokT) : ∀ p, (placed p l).length = l.length := by
  induction l with
  | nil => intro p; rfl
  | cons t r ih => intro p; simp [placed, ih]
/-- Where the token at a place is written. -/
def placeAt (l : List TokT) (k : Nat) : Nat := (wAll (l.take k)).length
theorem placed_nth (l : List TokT) : ∀ p k, k < l.length → nthT (placed p l) k = ((nthT l k).1, (nthT l k).2.1, ((p + placeAt l k : Nat) : Int)) := by
  induction l with
  | nil => intro p k h; simp at h
  | cons t r ih =>
    intro p k h
    cases k with
    | zero => simp [placed, nthT, placeAt, wAll]
    | succ k =>
      have := ih (p + (tokS t.1 (strI t.2.1)).length + 1) k (by simpa using h)
      have e1 : nthT (placed p (t :: r)) (k + 1) = nthT (placed (p + (tokS t.1 (strI t.2.1)).length + 1) r) k := by simp [placed, nthT, List.getD]
      have e2 : nthT (t :: r) (k + 1) = nthT r k := by simp [nthT, List.getD]
      have e3 : placeAt (t :: r) (k + 1) = (tokS t.1 (strI t.2.1)).length + 1 + placeAt r k := by simp [placeAt, wAll]; omega
      rw [e1, e2, e3, this]
      congr 3; omega
theorem wOut_within (l : List TokT) : Within 256 (wOut l) := by
  unfold wOut; split
  · exact within_dropX (wAll_within l) 1
  · exact fun z hz => by simp at hz
theorem wOut_len (l : List TokT) : (wOut l).length ≤ 4 * bulkT l + 3 * l.length := by
  have := wAll_len l
  unfold wOut; split
  · rw [List.length_drop]; omega
  · simp
theorem alike_placed {l : List TokT} {k : Nat} (h : k < l.length) : (nthT (placed 0 l) k).1 = (nthT l k).1 ∧ (nthT (placed 0 l) k).2.1 = (nthT l k).2.1 := by
  rw [placed_nth l 0 k h]; exact ⟨rfl, rfl⟩

/-! ### a note behind a line -/

/-! ### a quoted text alone -/

theorem quote_print (t : List Int) (hw : Within 256 t) : ∀ z ∈ quoteL t, 32 ≤ z ∧ z ≤ 126 := by
  intro z hz
  simp only [quoteL, List.mem_cons, List.mem_append, List.mem_flatMap, List.not_mem_nil, or_false] at hz
  rcases hz with rfl | ⟨c, hc, hz⟩ | rfl
  · omega
  · have hcb := hw c hc
    unfold escL at hz
    split at hz
    · simp at hz; omega
    · split at hz
      · rename_i hp
        simp only [printB, decide_eq_true_eq] at hp
        simp at hz; omega
      · simp only [List.mem_cons, List.not_mem_nil, or_false] at hz
        have hd : ∀ n : Int, 0 ≤ n → n < 16 → 32 ≤ hexD n ∧ hexD n ≤ 126 := fun n a b => by unfold hexD; split <;> omega
        rcases hz with rfl | rfl | rfl | rfl
        · omega
        · omega
        · exact hd _ (by omega) (by omega)
        · exact hd _ (by omega) (by omega)
  · omega
end Go.Proofs.YtkfflhonpnogdabGreatDoor

/-
  What the tokens of a head's line say, as plain functions.
-/
namespace Go.Proofs.YtkfflhonpnogdabGreatDoor
open Go.RowKit
set_option linter.unusedVariables false
set_option linter.unusedSimpArgs false

def moduleS : ByteArray := ⟨#[109, 111, 100, 117, 108, 101]⟩

/-- What is wrong with a token that must be a number. -/
def numP (t : TokT) : Int := if t.1 ≠ 3 then 70 else numErr (strI t.2.1)

/-- What the tokens of a head's line say: generator, bound, what is wrong, where. -/
def headP (l : List TokT) (len : Int) : Int × Int × Int × Int :=
  if l.length < 1 then (0, 0, 72, len)
  else if ¬ ((nthT l 0).1 = 1 ∧ (nthT l 0).2.1 = moduleS) then (0, 0, 70, (nthT l 0).2.2)
  else if l.length < 2 then (0, 0, 72, len)
  else if numP (nthT l 1) ≠ 0 then (0, 0, numP (nthT l 1), (nthT l 1).2.2)
  else if l.length < 3 then (0, 0, 72, len)
  else if numP (nthT l 2) ≠ 0 then (0, 0, numP (nthT l 2), (nthT l 2).2.2)
  else if numV (strI (nthT l 2).2.1) < 1 ∨ 65536 < numV (strI (nthT l 2).2.1) then (0, 0, 24, (nthT l 2).2.2)
  else if 3 < l.length then (0, 0, 70, (nthT l 3).2.2)
  else (numV (strI (nthT l 1).2.1), numV (strI (nthT l 2).2.1), 0, 0)

theorem numP_num {t : TokT} (h : t.1 = 3) : numP t = numErr (strI t.2.1) := by unfold numP; rw [if_neg (by simp [h])]

end Go.Proofs.YtkfflhonpnogdabGreatDoor

/-
  formTexts of the layer grammar, and what its iterator tells: the operations that have forms, rising, with their texts.
-/
namespace Go.Proofs.YtkfflhonpnogdabGreatDoor
open Go.RowKit Go.Shelf Go.Lib
set_option maxRecDepth 10000
attribute [local go_sem] Oper.semAt_some
set_option linter.unusedVariables false
set_option linter.unusedSimpArgs false

/-- The operations below k that have a text. -/
def opsTo : Nat → List Nat
  | 0 => []
  | k + 1 => if (ftxt k).size = 0 then opsTo k else opsTo k ++ [k]
def opsL : List Nat := opsTo 256
end Go.Proofs.YtkfflhonpnogdabGreatDoor

/-
  What Letter of the document's answer returns, for every operation and number.
-/
namespace Go.Proofs.YtkfflhonpnogdabGreatDoor
open Go.RowKit
set_option maxRecDepth 10000
set_option linter.unusedVariables false
set_option linter.unusedSimpArgs false

end Go.Proofs.YtkfflhonpnogdabGreatDoor

/-
  What All of the document's answer returns: a list of its own with all forms, rising by their operations.
-/
namespace Go.Proofs.YtkfflhonpnogdabGreatDoor
open Go.RowKit
set_option maxRecDepth 10000
set_option linter.unusedVariables false
set_option linter.unusedSimpArgs false

end Go.Proofs.YtkfflhonpnogdabGreatDoor

/-
  What Named of the document's answer returns, for every name; the list of forms, as it can be read.
-/
namespace Go.Proofs.YtkfflhonpnogdabGreatDoor
open Go.RowKit
set_option maxRecDepth 10000
set_option linter.unusedVariables false
set_option linter.unusedSimpArgs false

/-- The operation at a place of the list, and its form. -/
def opN (i : Nat) : Nat := opsL.getD i 0
def opF (k : Nat) : Frm := (lookF refT k).1

/-- The list of forms, as it can be read. -/
def FormsV (W : World) (v : Value) : Prop := ∃ g cap, v = .slice (some ⟨g, 0, none⟩) 93 cap ∧ g < W.heap.size ∧ ∀ i, i < 93 → (W.cell? ⟨g, i * 8, none⟩ = some (.int .u16 (opN i)) ∧ W.cell? ⟨g, i * 8 + 1, none⟩ = some (.string (opF (opN i)).1) ∧ W.cell? ⟨g, i * 8 + 2, none⟩ = some (.bool (opF (opN i)).2.1) ∧ W.cell? ⟨g, i * 8 + 3, none⟩ = some (.bool (opF (opN i)).2.2.1) ∧
  W.cell? ⟨g, i * 8 + 4, none⟩ = some (.string (opF (opN i)).2.2.2.1) ∧ W.cell? ⟨g, i * 8 + 5, none⟩ = some (.string (opF (opN i)).2.2.2.2.1) ∧ W.cell? ⟨g, i * 8 + 6, none⟩ = some (.int .i64 (opF (opN i)).2.2.2.2.2.1) ∧ W.cell? ⟨g, i * 8 + 7, none⟩ = some (.int .u8 (opF (opN i)).2.2.2.2.2.2))

theorem FormsV.below {W W' : World} {v : Value} (h : FormsV W v) (hb : Below W.heap.size W W') : FormsV W' v := by
  obtain ⟨g, cap, e, hg, hc⟩ := h
  refine ⟨g, cap, e, Nat.lt_of_lt_of_le hg hb.size, fun i hi => ?_⟩
  have q : ∀ o, W'.cell? ⟨g, o, none⟩ = W.cell? ⟨g, o, none⟩ := fun o => hb.cell (p := ⟨g, o, none⟩) hg
  simp only [q]
  exact hc i hi

/-- A form of a name. -/
def namP (s : ByteArray) (k : Nat) : Bool := (opF k).1.toList == s.toList
end Go.Proofs.YtkfflhonpnogdabGreatDoor

/-
  What a line's tokens say, as plain functions: a head, an argument, an instruction.
-/
namespace Go.Proofs.YtkfflhonpnogdabGreatDoor
open Go.RowKit
set_option linter.unusedVariables false
set_option linter.unusedSimpArgs false

/-- The kind of token that a letter asks for; 0: none may stand. -/
def takeK (c : Int) : Int := if kindI c = 1 then 2 else if kindI c = 2 then 3 else if kindI c = 3 then 4 else if kindI c = 4 then 1 else 0

/-- What is wrong with digits as an id. -/
def idP (s : ByteArray) (b : Int) : Int := if numB (strI s) = false then 62 else if numV (strI s) = 0 ∨ b ≤ numV (strI s) then 43 else 0

/-- What is wrong with a text as an argument of a letter. -/
def txtE (c : Int) (s : ByteArray) (b : Int) : Int :=
  if kindI c = 1 then idP s b else if kindI c = 2 then numErr (strI s) else if kindI c = 3 then (if nulS s then 13 else 0)
  else if kindI c = 4 then (if enumNB c s then 0 else 71) else 70
/-- The argument that it says. -/
def txtA (c : Int) (s : ByteArray) (b : Int) : ArgT :=
  if txtE c s b ≠ 0 then noArg
  else if kindI c = 1 then (1, numV (strI s), ⟨#[]⟩) else if kindI c = 2 then (2, numV (strI s), ⟨#[]⟩) else if kindI c = 3 then (3, 0, s)
  else (4, enumN c s, ⟨#[]⟩)
/-- The same of a token. -/
def argE (c : Int) (t : TokT) (b : Int) : Int := if takeK c = 0 ∨ t.1 ≠ takeK c then 70 else txtE c t.2.1 b
def argA (c : Int) (t : TokT) (b : Int) : ArgT := if argE c t b ≠ 0 then noArg else txtA c t.2.1 b

/-- The arguments of so many tokens, from a place on. -/
def argsN (f : Frm) (b : Int) (l : List TokT) (at_ n : Nat) : List ArgT := (List.range n).map fun (k : Nat) => argA (letterI f k) (nthT l (at_ + k)) b
/-- The first token that is wrong as an argument. -/
def badArg (f : Frm) (b : Int) (l : List TokT) (at_ : Nat) : Option Nat := (List.range (l.length - at_)).find? fun (k : Nat) => decide (argE (letterI f k) (nthT l (at_ + k)) b ≠ 0)

/-- An instruction, whether there is one, what is wrong, where. -/
abbrev LineR := InstT × Bool × Int × Int
def noLine (e p : Int) : LineR := (noInst, false, e, p)
/-- From the arguments on. -/
def lineA (o : Int) (f : Frm) (t r : Int) (l : List TokT) (at_ : Nat) (len b : Int) : LineR :=
  match badArg f b l at_ with
  | some k => noLine (argE (letterI f k) (nthT l (at_ + k)) b) (nthT l (at_ + k)).2.2
  | none =>
    if wholeN f ((l.length - at_ : Nat) : Int) = false then noLine 72 len
    else if 65535 < 1 + (rawL f (o, t, r, argsN f b l at_ (l.length - at_))).length then noLine 25 0
    else ((o, t, r, argsN f b l at_ (l.length - at_)), true, 0, 0)
/-- From the type on. -/
def lineT (o : Int) (f : Frm) (r : Int) (l : List TokT) (at_ : Nat) (len b : Int) : LineR :=
  if f.2.1 = false then lineA o f 0 r l at_ len b
  else if l.length ≤ at_ then noLine 72 len
  else if argE 105 (nthT l at_) b ≠ 0 then noLine (argE 105 (nthT l at_) b) (nthT l at_).2.2
  else lineA o f (argA 105 (nthT l at_) b).2.1 r l (at_ + 1) len b
/-- From the operation on. -/
def lineO (said : Bool) (l : List TokT) (at_ : Nat) (len b : Int) : LineR :=
  if l.length ≤ at_ then noLine 72 len
  else if (nthT l at_).1 ≠ 1 then noLine 70 (nthT l at_).2.2
  else match opsL.find? (namP (nthT l at_).2.1) with
    | none => noLine 71 (nthT l at_).2.2
    | some o => if (opF o).2.2.1 ≠ said then noLine 41 (nthT l 0).2.2
      else if said = true ∧ idP (nthT l 0).2.1 b ≠ 0 then noLine (idP (nthT l 0).2.1 b) (nthT l 0).2.2
      else lineT o (opF o) (if said then numV (strI (nthT l 0).2.1) else 0) l (at_ + 1) len b
/-- What a line's tokens say; there is one at least. -/
def lineP (l : List TokT) (len b : Int) : LineR :=
  if (nthT l 0).1 ≠ 2 then lineO false l 0 len b
  else if l.length < 2 then noLine 72 len
  else if (nthT l 1).1 ≠ 5 then noLine 70 (nthT l 1).2.2
  else lineO true l 2 len b
end Go.Proofs.YtkfflhonpnogdabGreatDoor

/-
  Plain facts on what a line's tokens say: an argument that is taken is a right one; an instruction whose arguments are taken can be written but for its length.
-/
namespace Go.Proofs.YtkfflhonpnogdabGreatDoor
open Go.RowKit
set_option linter.unusedVariables false
set_option linter.unusedSimpArgs false
set_option maxRecDepth 10000

theorem kind_i : kindI 105 = 1 := by decide +kernel
theorem take_i : takeK 105 = 2 := by unfold takeK; rw [kind_i]; rfl
theorem kindI_most (c : Int) : 0 ≤ kindI c ∧ kindI c ≤ 4 := by unfold kindI; repeat' split <;> omega
def letOk (f : Frm) : Bool := f.2.2.2.1.data.toList.all (fun x => decide (kindI (x.toNat : Int) ≠ 0)) && f.2.2.2.2.1.data.toList.all (fun x => decide (kindI (x.toNat : Int) ≠ 0))
theorem refT_letOk : refT.all (fun p => letOk p.2) = true := by decide +kernel
theorem look_letOk (n : Int) : letOk (lookF refT n).1 = true := by
  by_cases h : (lookF refT n).2 = true
  · exact List.all_eq_true.1 refT_letOk _ (lookF_true h)
  · have : lookF refT n = (noFrm, false) := (lookF_false (by simpa using h)).1
    rw [this]; rfl
theorem sgn_known {s : ByteArray} (h : s.data.toList.all (fun x => decide (kindI (x.toNat : Int) ≠ 0)) = true) (k : Nat) : sgn s k = 0 ∨ kindI (sgn s k) ≠ 0 := by
  unfold sgn
  by_cases hk : k < s.data.toList.length
  · right
    have e : s.data.toList.getD k 0 = s.data.toList[k] := by rw [List.getD, List.getElem?_eq_getElem hk]; rfl
    have := List.all_eq_true.1 h _ (List.getElem_mem hk)
    rw [e]; simpa using this
  · left
    have e : s.data.toList.getD k 0 = 0 := by simp only [List.getD]; rw [List.getElem?_eq_none (by omega)]; rfl
    rw [e]; rfl
/-- A form's letter is none, or a known one. -/
theorem letter_known (n i : Int) : letterI (lookF refT n).1 i = 0 ∨ kindI (letterI (lookF refT n).1 i) ≠ 0 := by
  have h := look_letOk n
  simp only [letOk, Bool.and_eq_true] at h
  unfold letterI
  split
  · exact .inl rfl
  · split
    · exact sgn_known h.1 _
    · split
      · exact sgn_known h.2 _
      · exact .inl rfl

theorem argsN_nth (f : Frm) (b : Int) (l : List TokT) (at_ n k : Nat) (h : k < n) : nthA (argsN f b l at_ n) k = argA (letterI f k) (nthT l (at_ + k)) b := by
  simp [argsN, nthA, List.getD, h]
theorem badArg_no {f : Frm} {b : Int} {l : List TokT} {at_ : Nat} (h0 : ∀ j, at_ + j < l.length → argE (letterI f j) (nthT l (at_ + j)) b = 0) : badArg f b l at_ = none :=
  range_not _ (fun j hj => by simp [h0 j (by omega)])
end Go.Proofs.YtkfflhonpnogdabGreatDoor

/-
  An instruction's line, as it is written by its form: it is read as that instruction. In plain mathematics.
-/
namespace Go.Proofs.YtkfflhonpnogdabGreatDoor
open Go.RowKit
set_option linter.unusedSimpArgs false
set_option maxRecDepth 10000
set_option linter.unusedVariables false

/-! ### names lead back -/

def nameRow (p : Int × Frm) : Bool := decide (opsL.find? (namP p.2.1) = some p.1.toNat) && decide (0 ≤ p.1) && decide (opF p.1.toNat = p.2) && decide (p.2.1.size ≤ 1000) && wordB (strI p.2.1)
theorem nameRows : refT.all nameRow = true := by decide +kernel
theorem look_memW : ∀ {l : List (Int × Frm)} {n : Int}, (lookF l n).2 = true → (n, (lookF l n).1) ∈ l
  | [], n, h => by simp [lookF] at h
  | (k, s) :: l, n, h => by
    rw [lookF] at h ⊢
    by_cases e : n = k
    · rw [if_pos e]; subst e; simp
    · rw [if_neg e] at h ⊢; exact List.mem_cons_of_mem _ (look_memW h)
theorem name_op {n : Int} (h : (lookF refT n).2 = true) : ∃ o : Nat, n = (o : Int) ∧ opsL.find? (namP (lookF refT n).1.1) = some o ∧ opF o = (lookF refT n).1 ∧ (lookF refT n).1.1.size ≤ 1000 ∧ wordB (strI (lookF refT n).1.1) = true := by
  have hr := List.all_eq_true.1 nameRows _ (look_memW h)
  simp only [nameRow, Bool.and_eq_true, decide_eq_true_eq] at hr
  obtain ⟨⟨⟨⟨r1, r2⟩, r3⟩, r4⟩, r5⟩ := hr
  exact ⟨n.toNat, by omega, r1, r3, r4, r5⟩
def enumRow (x : Int × Int × ByteArray) : Bool := decide (enumN x.1 x.2.2 = x.2.1) && enumNB x.1 x.2.2 && wordB (strI x.2.2) && decide (x.2.2.size ≤ 1000)
theorem enumRows : namesT.all enumRow = true := by decide +kernel
theorem name_enum {c n : Int} (h : enumB c n = true) : enumN c (enumS c n) = n ∧ enumNB c (enumS c n) = true ∧ wordB (strI (enumS c n)) = true ∧ (enumS c n).size ≤ 1000 := by
  unfold enumB at h
  obtain ⟨x, hx⟩ := Option.isSome_iff_exists.1 h
  have e : enumS c n = x.2.2 := by unfold enumS; rw [hx]
  have hr := List.all_eq_true.1 enumRows x (List.mem_of_find?_eq_some hx)
  have hp := List.find?_some hx
  simp only [isNum, Bool.and_eq_true, beq_iff_eq] at hp
  simp only [enumRow, Bool.and_eq_true, decide_eq_true_eq] at hr
  rw [e, ← hp.1, ← hp.2]
  exact ⟨hr.1.1.1, hr.1.1.2, hr.1.2, hr.2⟩

/-! ### tokens of an instruction -/

def argTk (c : Int) (x : ArgT) : TokT := if x.1 = 1 then (2, dgS x.2.1, 0) else if x.1 = 2 then (3, dgS x.2.1, 0) else if x.1 = 3 then (4, x.2.2, 0) else (1, enumS c x.2.1, 0)
def argTks (f : Frm) (l : List ArgT) : List TokT := (List.range l.length).map fun (k : Nat) => argTk (letterI f k) (nthA l k)
def eqS : ByteArray := ⟨#[61]⟩
/-- What stands ahead of the arguments. -/
def preTk (f : Frm) (x : InstT) : List TokT := (if f.2.2.1 then [(2, dgS x.2.2.1, 0), (5, eqS, 0)] else []) ++ ([(1, f.1, 0)] ++ (if f.2.1 then [(2, dgS x.2.1, 0)] else []))
def tksI (x : InstT) : List TokT := preTk (lookF refT x.1).1 x ++ argTks (lookF refT x.1).1 x.2.2.2
/-- The same tokens, at whatever places. -/
def SameT (ps l : List TokT) : Prop := ps.length = l.length ∧ ∀ k, k < l.length → (nthT ps k).1 = (nthT l k).1 ∧ (nthT ps k).2.1 = (nthT l k).2.1
theorem argTks_len (f : Frm) (l : List ArgT) : (argTks f l).length = l.length := by simp [argTks]
theorem argTks_nth (f : Frm) (l : List ArgT) (k : Nat) (h : k < l.length) : nthT (argTks f l) k = argTk (letterI f k) (nthA l k) := by simp [argTks, nthT, List.getD, h]
theorem nthT_left (a b : List TokT) (k : Nat) (h : k < a.length) : nthT (a ++ b) k = nthT a k := by simp [nthT, List.getD, List.getElem?_append_left h]
theorem nthT_right (a b : List TokT) (k : Nat) : nthT (a ++ b) (a.length + k) = nthT b k := by simp only [nthT, List.getD]; rw [List.getElem?_append_right (by omega), Nat.add_sub_cancel_left]
theorem noStr {s : ByteArray} (h : s.size = 0) : s = ⟨#[]⟩ := by
  obtain ⟨d⟩ := s
  congr
  exact Array.eq_empty_of_size_eq_zero h

theorem id_back {n b : Int} (h0 : 0 < n) (h1 : n < b) (h2 : n < 4294967296) : idP (dgS n) b = 0 ∧ numV (strI (dgS n)) = n := by
  obtain ⟨e1, e2⟩ := dgL_num (n := n.toNat) (by omega)
  have e3 : numV (strI (dgS n)) = n := by rw [strI_dgS, e2]; omega
  refine ⟨?_, e3⟩
  unfold idP
  rw [e3, if_neg (by rw [strI_dgS, e1]; simp), if_neg (by omega)]
theorem num_back {n : Int} (h0 : 0 ≤ n) (h2 : n < 4294967296) : numErr (strI (dgS n)) = 0 ∧ numV (strI (dgS n)) = n := by
  obtain ⟨e1, e2⟩ := dgL_num (n := n.toNat) (by omega)
  refine ⟨?_, by rw [strI_dgS, e2]; omega⟩
  unfold numErr
  rw [strI_dgS, e1]; rfl
theorem idE_some {n b e : Int} (he : e ≠ 0) (h0 : 0 ≤ n) (h : idE true n b e = 0) : 0 < n ∧ n < b := by
  unfold idE at h
  by_cases hn : n = 0
  · subst hn; simp at h; exact absurd h he
  · by_cases hb : b ≤ n
    · simp [hn, hb] at h
    · omega
theorem idE_noW {n b e : Int} (he : e ≠ 0) (h : idE false n b e = 0) : n = 0 := by
  unfold idE at h
  by_cases hn : n = 0
  · exact hn
  · simp [hn] at h; exact absurd h he
/-- An argument's token says that argument. -/
theorem arg_back {c b : Int} {x : ArgT} {t : TokT} (hok : ArgOk x) (hk : kindI c ≠ 0) (h : wrongA c x b = 0) (t1 : t.1 = (argTk c x).1) (t2 : t.2.1 = (argTk c x).2.1) : argE c t b = 0 ∧ argA c t b = x := by
  obtain ⟨hc, hkd⟩ := wrongA_kind h
  obtain ⟨k, n, s⟩ := x
  obtain ⟨o1, o2, o3, o4, o5⟩ := hok
  simp only at hkd o1 o2 o3 o4 o5
  have hm : mayStandB c (k, n, s) = true := by
    unfold wrongA at h
    by_cases e : mayStandB c (k, n, s) = false
    · rw [if_pos e] at h; cases h
    · simpa using e
  unfold wrongA at h
  rw [if_neg (by rw [hm]; simp)] at h
  simp only [mayStandB, Bool.and_eq_true] at hm
  have hm2 := hm.2
  simp only at h hm2
  have hmost := kindI_most c
  have key : argE c t b = 0 ∧ txtE c t.2.1 b = 0 ∧ txtA c t.2.1 b = (k, n, s) → argE c t b = 0 ∧ argA c t b = (k, n, s) := fun q => by
    refine ⟨q.1, ?_⟩
    unfold argA
    rw [if_neg (by rw [q.1]; simp)]; exact q.2.2
  apply key
  rcases (show kindI c = 1 ∨ kindI c = 2 ∨ kindI c = 3 ∨ kindI c = 4 by omega) with e | e | e | e
  · have hk1 : k = 1 := by omega
    subst hk1
    have e1 : argTk c (1, n, s) = (2, dgS n, 0) := by simp [argTk]
    rw [e1] at t1 t2
    simp only at t1 t2
    rw [if_neg (by decide)] at h hm2
    have hs : s = ⟨#[]⟩ := noStr (by simpa using hm2)
    have hn : 0 < n ∧ n < b := by
      unfold faultW at h
      rw [if_pos e] at h
      by_cases hb : noneB n b = true
      · rw [if_pos hb] at h; cases h
      · unfold noneB at hb
        simp at hb
        omega
    obtain ⟨i1, i2⟩ := id_back hn.1 hn.2 o4
    have hx : txtE c t.2.1 b = 0 := by rw [t2]; unfold txtE; rw [if_pos e]; exact i1
    refine ⟨?_, hx, ?_⟩
    · unfold argE
      have : takeK c = 2 := by unfold takeK; rw [if_pos e]
      rw [this, if_neg (by rw [t1]; simp)]; exact hx
    · unfold txtA
      rw [if_neg (by rw [hx]; simp), if_pos e, t2, i2, hs]
  · have hk1 : k = 2 := by omega
    subst hk1
    have e1 : argTk c (2, n, s) = (3, dgS n, 0) := by simp [argTk]
    rw [e1] at t1 t2
    simp only at t1 t2
    rw [if_neg (by decide)] at h hm2
    have hs : s = ⟨#[]⟩ := noStr (by simpa using hm2)
    obtain ⟨i1, i2⟩ := num_back o3 o4
    have hx : txtE c t.2.1 b = 0 := by rw [t2]; unfold txtE; rw [if_neg (by omega), if_pos e]; exact i1
    refine ⟨?_, hx, ?_⟩
    · unfold argE
      have : takeK c = 3 := by unfold takeK; rw [if_neg (by omega), if_pos e]
      rw [this, if_neg (by rw [t1]; simp)]; exact hx
    · unfold txtA
      rw [if_neg (by rw [hx]; simp), if_neg (by omega), if_pos e, t2, i2, hs]
  · have hk1 : k = 3 := by omega
    subst hk1
    have e1 : argTk c (3, n, s) = (4, s, 0) := by simp [argTk]
    rw [e1] at t1 t2
    simp only at t1 t2
    rw [if_pos rfl] at h hm2
    have hn : n = 0 := by simpa using hm2
    have hs : nulS s = false := by
      by_cases hb : nulS s = true
      · rw [if_pos hb] at h; cases h
      · simpa using hb
    have hx : txtE c t.2.1 b = 0 := by rw [t2]; unfold txtE; rw [if_neg (by omega), if_neg (by omega), if_pos e, if_neg (by rw [hs]; simp)]
    refine ⟨?_, hx, ?_⟩
    · unfold argE
      have : takeK c = 4 := by unfold takeK; rw [if_neg (by omega), if_neg (by omega), if_pos e]
      rw [this, if_neg (by rw [t1]; simp)]; exact hx
    · unfold txtA
      rw [if_neg (by rw [hx]; simp), if_neg (by omega), if_neg (by omega), if_pos e, t2, hn]
  · have hk1 : k = 4 := by omega
    subst hk1
    have e1 : argTk c (4, n, s) = (1, enumS c n, 0) := by simp [argTk]
    rw [e1] at t1 t2
    simp only at t1 t2
    rw [if_neg (by decide)] at h hm2
    have hs : s = ⟨#[]⟩ := noStr (by simpa using hm2)
    have hn : enumB c n = true := by
      unfold faultW at h
      rw [if_neg (by omega), if_pos e] at h
      by_cases hb : enumB c n = true
      · exact hb
      · rw [if_neg hb] at h; cases h
    obtain ⟨i1, i2, _⟩ := name_enum hn
    have hx : txtE c t.2.1 b = 0 := by rw [t2]; unfold txtE; rw [if_neg (by omega), if_neg (by omega), if_neg (by omega), if_pos e, if_pos i2]
    refine ⟨?_, hx, ?_⟩
    · unfold argE
      have : takeK c = 1 := by unfold takeK; rw [if_neg (by omega), if_neg (by omega), if_neg (by omega), if_pos e]
      rw [this, if_neg (by rw [t1]; simp)]; exact hx
    · unfold txtA
      rw [if_neg (by rw [hx]; simp), if_neg (by omega), if_neg (by omega), if_neg (by omega), t2, i1, hs]

/-- From the arguments on. -/
theorem lineA_back {x : InstT} {b len : Int} {ps : List TokT} {p : Nat} (hok : ArgsOk x.2.2.2) (hw : ∀ j, j < x.2.2.2.length → wrongA (letterI (lookF refT x.1).1 (j : Int)) (nthA x.2.2.2 j) b = 0) (hwh : wholeN (lookF refT x.1).1 x.2.2.2.length = true) (hlen : 1 + (rawL (lookF refT x.1).1 x).length ≤ 65535)
    (hl : ps.length = p + x.2.2.2.length) (hp : ∀ j, j < x.2.2.2.length → (nthT ps (p + j)).1 = (argTk (letterI (lookF refT x.1).1 (j : Int)) (nthA x.2.2.2 j)).1 ∧ (nthT ps (p + j)).2.1 = (argTk (letterI (lookF refT x.1).1 (j : Int)) (nthA x.2.2.2 j)).2.1) :
    lineA x.1 (lookF refT x.1).1 x.2.1 x.2.2.1 ps p len b = (x, true, 0, 0) := by
  have hb : ∀ j, j < x.2.2.2.length → argE (letterI (lookF refT x.1).1 (j : Int)) (nthT ps (p + j)) b = 0 ∧ argA (letterI (lookF refT x.1).1 (j : Int)) (nthT ps (p + j)) b = nthA x.2.2.2 j := fun j hj => by
    have hc := (wrongA_kind (hw j hj)).1
    rcases letter_known x.1 (j : Int) with h | h
    · exact absurd h hc
    · exact arg_back (hok j hj) h (hw j hj) (hp j hj).1 (hp j hj).2
  have hn : badArg (lookF refT x.1).1 b ps p = none := badArg_no fun j hj => (hb j (by omega)).1
  have hlen' : ps.length - p = x.2.2.2.length := by omega
  have ha : argsN (lookF refT x.1).1 b ps p x.2.2.2.length = x.2.2.2 := by
    apply List.ext_getElem (by simp [argsN])
    intro j h1 h2
    have e1 := argsN_nth (lookF refT x.1).1 b ps p x.2.2.2.length j h2
    have e2 := (hb j h2).2
    rw [e2] at e1
    rw [nthA_lt _ _ h1, nthA_lt _ _ h2] at e1
    exact e1
  unfold lineA
  rw [hn]
  simp only
  rw [hlen', hwh, if_neg (by simp), ha]
  have e : ((x.1, x.2.1, x.2.2.1, x.2.2.2) : InstT) = x := rfl
  rw [e, if_neg (by omega)]
/-- From the type on. -/
theorem lineT_back {x : InstT} {b len : Int} {ps : List TokT} {p : Nat} (hx : InstOk x) (hr : rawE x b = 0) (hl : ps.length = p + (if (lookF refT x.1).1.2.1 then 1 else 0) + x.2.2.2.length) (ht : (lookF refT x.1).1.2.1 = true → (nthT ps p).1 = 2 ∧ (nthT ps p).2.1 = dgS x.2.1)
    (hp : ∀ j, j < x.2.2.2.length → (nthT ps (p + (if (lookF refT x.1).1.2.1 then 1 else 0) + j)).1 = (argTk (letterI (lookF refT x.1).1 (j : Int)) (nthA x.2.2.2 j)).1 ∧ (nthT ps (p + (if (lookF refT x.1).1.2.1 then 1 else 0) + j)).2.1 = (argTk (letterI (lookF refT x.1).1 (j : Int)) (nthA x.2.2.2 j)).2.1) :
    lineT x.1 (lookF refT x.1).1 x.2.2.1 ps p len b = (x, true, 0, 0) := by
  obtain ⟨h1, h2, h3⟩ := rawWs_ok hr
  obtain ⟨i1, i2, i3, i4, i5⟩ := faultI_zero h2
  obtain ⟨x1, x2, x3, x4, x5, x6, x7, x8⟩ := hx
  have hw : ∀ j, j < x.2.2.2.length → wrongA (letterI (lookF refT x.1).1 (j : Int)) (nthA x.2.2.2 j) b = 0 := fun j hj => by
    have := wrongL_zero i3 j hj
    rwa [Nat.zero_add] at this
  unfold lineT
  by_cases e : (lookF refT x.1).1.2.1 = true
  · rw [if_neg (by rw [e]; simp)]
    simp only [e, if_true] at hl hp
    obtain ⟨t1, t2⟩ := ht e
    rw [e] at i1
    obtain ⟨n0, n1⟩ := idE_some (by decide) x3 i1
    obtain ⟨j1, j2⟩ := id_back n0 n1 x4
    have ex : txtE 105 (nthT ps p).2.1 b = 0 := by rw [t2]; unfold txtE; rw [if_pos kind_i]; exact j1
    have eE : argE 105 (nthT ps p) b = 0 := by unfold argE; rw [take_i, if_neg (by rw [t1]; simp)]; exact ex
    have eA : (argA 105 (nthT ps p) b).2.1 = x.2.1 := by
      unfold argA
      rw [if_neg (by rw [eE]; simp)]
      unfold txtA
      rw [if_neg (by rw [ex]; simp), if_pos kind_i, t2]
      exact j2
    rw [if_neg (by omega), if_neg (by rw [eE]; simp), eA]
    exact lineA_back x7 hw i4 i5 (by omega) hp
  · have e' : (lookF refT x.1).1.2.1 = false := by simpa using e
    rw [if_pos e']
    simp only [e', Bool.false_eq_true, if_false, Nat.add_zero] at hl hp
    rw [e'] at i1
    have h0 := idE_noW (by decide) i1
    have := lineA_back (len := len) x7 hw i4 i5 hl hp
    rw [h0] at this
    exact this
/-- A line of an instruction's tokens says that instruction. -/
theorem line_back {x : InstT} {b len : Int} {ps : List TokT} (hx : InstOk x) (hr : rawE x b = 0) (h : SameT ps (tksI x)) : lineP ps len b = (x, true, 0, 0) := by
  obtain ⟨h1, h2, h3⟩ := rawWs_ok hr
  obtain ⟨i1, i2, i3, i4, i5⟩ := faultI_zero h2
  obtain ⟨o, ho, hf, hof, _, _⟩ := name_op h1
  obtain ⟨hl, hs⟩ := h
  have hx' := hx
  obtain ⟨x1, x2, x3, x4, x5, x6, x7, x8⟩ := hx'
  have hpl : (preTk (lookF refT x.1).1 x).length = (if (lookF refT x.1).1.2.2.1 then 2 else 0) + 1 + (if (lookF refT x.1).1.2.1 then 1 else 0) := by
    unfold preTk
    cases (lookF refT x.1).1.2.2.1 <;> cases (lookF refT x.1).1.2.1 <;> simp
  have hl' : ps.length = (if (lookF refT x.1).1.2.2.1 then 2 else 0) + 1 + (if (lookF refT x.1).1.2.1 then 1 else 0) + x.2.2.2.length := by rw [hl]; unfold tksI; rw [List.length_append, hpl, argTks_len]
  have htl : (tksI x).length = ps.length := hl.symm
  have hpre : ∀ k, k < (preTk (lookF refT x.1).1 x).length → (nthT ps k).1 = (nthT (preTk (lookF refT x.1).1 x) k).1 ∧ (nthT ps k).2.1 = (nthT (preTk (lookF refT x.1).1 x) k).2.1 := fun k hk => by
    have := hs k (by rw [htl, hl']; omega)
    unfold tksI at this
    rwa [nthT_left _ _ _ hk] at this
  have harg : ∀ j, j < x.2.2.2.length → (nthT ps ((preTk (lookF refT x.1).1 x).length + j)).1 = (argTk (letterI (lookF refT x.1).1 (j : Int)) (nthA x.2.2.2 j)).1 ∧ (nthT ps ((preTk (lookF refT x.1).1 x).length + j)).2.1 = (argTk (letterI (lookF refT x.1).1 (j : Int)) (nthA x.2.2.2 j)).2.1 := fun j hj => by
    have := hs ((preTk (lookF refT x.1).1 x).length + j) (by rw [htl, hl', hpl]; omega)
    unfold tksI at this
    rw [nthT_right, argTks_nth _ _ _ hj] at this
    exact this
  rw [hpl] at harg
  unfold lineP
  by_cases er : (lookF refT x.1).1.2.2.1 = true
  · simp only [er, if_true] at hl' harg hpl
    have q0 := hpre 0 (by omega)
    have q1 := hpre 1 (by omega)
    have q2 := hpre 2 (by omega)
    have p0 : nthT (preTk (lookF refT x.1).1 x) 0 = (2, dgS x.2.2.1, 0) := by simp [preTk, er, nthT]
    have p1 : nthT (preTk (lookF refT x.1).1 x) 1 = (5, eqS, 0) := by simp [preTk, er, nthT]
    have p2 : nthT (preTk (lookF refT x.1).1 x) 2 = (1, (lookF refT x.1).1.1, 0) := by simp [preTk, er, nthT]
    rw [p0] at q0; rw [p1] at q1; rw [p2] at q2
    simp only at q0 q1 q2
    rw [er] at i2
    obtain ⟨n0, n1⟩ := idE_some (by decide) x5 i2
    obtain ⟨j1, j2⟩ := id_back n0 n1 x6
    rw [if_neg (by rw [q0.1]; simp), if_neg (by omega), if_neg (by rw [q1.1]; simp)]
    unfold lineO
    rw [if_neg (by omega), if_neg (by rw [q2.1]; simp), q2.2, hf]
    simp only
    rw [hof, if_neg (by rw [er]; simp), q0.2, if_neg (by rw [j1]; simp), if_pos trivial, j2, ← ho]
    refine lineT_back hx hr (by rw [hl']) (fun et => ?_) (fun j hj => ?_)
    · have q3 := hpre 3 (by rw [hpl, et]; simp)
      have p3 : nthT (preTk (lookF refT x.1).1 x) 3 = (2, dgS x.2.1, 0) := by simp [preTk, er, et, nthT]
      rw [p3] at q3
      exact q3
    · exact harg j hj
  · have er' : (lookF refT x.1).1.2.2.1 = false := by simpa using er
    simp only [er', Bool.false_eq_true, if_false, Nat.zero_add] at hl' harg hpl
    have q0 := hpre 0 (by omega)
    have p0 : nthT (preTk (lookF refT x.1).1 x) 0 = (1, (lookF refT x.1).1.1, 0) := by simp [preTk, er', nthT]
    rw [p0] at q0
    simp only at q0
    rw [er'] at i2
    have h0 := idE_noW (by decide) i2
    rw [if_pos (by rw [q0.1]; simp)]
    unfold lineO
    rw [if_neg (by omega), if_neg (by rw [q0.1]; simp), q0.2, hf]
    simp only
    rw [hof, if_neg (by rw [er']; simp), if_neg (by simp), if_neg (by simp), ← ho]
    have := lineT_back (len := len) (p := 1) (ps := ps) hx hr (by rw [hl']) (fun et => by
      have q3 := hpre 1 (by rw [hpl, et]; simp)
      have p3 : nthT (preTk (lookF refT x.1).1 x) 1 = (2, dgS x.2.1, 0) := by simp [preTk, er', et, nthT]
      rw [p3] at q3
      exact q3) (fun j hj => harg j hj)
    rw [h0] at this
    exact this

end Go.Proofs.YtkfflhonpnogdabGreatDoor

/-
  The small functions of the package print: a token of each kind, an argument's token.
-/
namespace Go.Proofs.YtkfflhonpnogdabGreatDoor
open Go.RowKit
set_option maxRecDepth 10000
set_option linter.unusedVariables false
set_option linter.unusedSimpArgs false

theorem Pow10.below {w w' : World} (h : Pow10 w) (hb : Below w.heap.size w w') : Pow10 w' := by
  unfold Pow10 Lib.TabIs World.var? at *
  cases hg : Tryz.prog.globalNamed "internal/strconv.uint64pow10" with
  | none => simp [hg] at h
  | some g =>
    simp only [hg, Option.bind_some] at h ⊢
    have hlt : g < w.heap.size := by
      rcases Nat.lt_or_ge g w.heap.size with h' | h'
      · exact h'
      · rw [Array.getElem?_eq_none h'] at h; simp at h
    rw [hb.block g hlt]
    exact h

theorem printDigits_any (n : Int) (w : World) (h0 : 0 ≤ n) (h1 : n < 4294967296) (ht : Pow10 w) : Calls Tryz.prog 96 #[.int .u32 n] w fun e w' => e = .returned (.string (dgS n)) ∧ Below w.heap.size w w' := by
  obtain ⟨u, rfl⟩ := Int.eq_ofNat_of_zero_le h0
  have hF := formatUint_any u (by omega) w ht
  have hw : IntKind.u64.wrap (u : Int) = (u : Int) := by rw [IntKind.wrap_u64]; omega
  go_enter Tryz.func96, Tryz.ntmps96
  go_wp2_with fail
  refine hF.mono ?_
  rintro e w' ⟨rfl, hb⟩
  go_wp2_with fail
  go_ret
  exact ⟨rfl, hb⟩

theorem printWord_any (s : ByteArray) (w : World) : Calls Tryz.prog 51 #[.string s] w fun e w' => e = .returned (tokV (1, s, 0)) ∧ Below w.heap.size w w' := by
  go_enter Tryz.func51, Tryz.ntmps51
  go_wp2
  refine bodyPost_ret (v := .agg #[.int .u8 1, .string s, .int .i64 0]) ?_ rfl ⟨rfl, ?_⟩
  · simp [results, Tryz.results51, go_sem]
  · exact (Below.refl _ w).alloc (Nat.le_refl _) _

theorem printText_any (s : ByteArray) (w : World) : Calls Tryz.prog 104 #[.string s] w fun e w' => e = .returned (tokV (4, s, 0)) ∧ Below w.heap.size w w' := by
  go_enter Tryz.func104, Tryz.ntmps104
  go_wp2
  refine bodyPost_ret (v := .agg #[.int .u8 4, .string s, .int .i64 0]) ?_ rfl ⟨rfl, ?_⟩
  · simp [results, Tryz.results104, go_sem]
  · exact (Below.refl _ w).alloc (Nat.le_refl _) _

theorem printEqual_any (w : World) : Calls Tryz.prog 70 #[] w fun e w' => e = .returned (tokV (5, eqS, 0)) ∧ Below w.heap.size w w' := by
  go_enter Tryz.func70, Tryz.ntmps70
  go_wp2
  refine bodyPost_ret (v := .agg #[.int .u8 5, .string eqS, .int .i64 0]) ?_ rfl ⟨rfl, ?_⟩
  · simp [results, Tryz.results70, go_sem]; rfl
  · exact (Below.refl _ w).alloc (Nat.le_refl _) _

theorem printId_any (n : Int) (w : World) (h0 : 0 ≤ n) (h1 : n < 4294967296) (ht : Pow10 w) : Calls Tryz.prog 69 #[.int .u32 n] w fun e w' => e = .returned (tokV (2, dgS n, 0)) ∧ Below w.heap.size w w' := by
  have hb0 : Below w.heap.size w (w.alloc (.cells #[.int .u8 0, .string ⟨#[]⟩, .int .i64 0] 41)) := (Below.refl _ w).alloc (Nat.le_refl _) _
  have hF := printDigits_any n _ h0 h1 (ht.below hb0)
  have hk := heap_alloc_new w (.cells #[.int .u8 0, .string ⟨#[]⟩, .int .i64 0] 41)
  go_enter Tryz.func69, Tryz.ntmps69
  go_wp2_with fail
  generalize w.alloc (.cells #[.int .u8 0, .string ⟨#[]⟩, .int .i64 0] 41) = W at *
  refine hF.mono ?_
  rintro e w' ⟨rfl, hb⟩
  have HB := Lib.hid (hb0.trans (hb.mono hb0.size))
  have hk2 := (hb.block w.heap.size (Array.getElem?_eq_some_iff.1 hk).1).trans hk
  have c0 := (one_block hk2).1 0
  have c1 := (one_block hk2).1 1
  have c2 := (one_block hk2).1 2
  have f := (one_block hk2).2
  have f0 := f 0
  have f1 := f 1
  have f2 := f 2
  clear hF hb hb0 hk hk2 f
  go_wp2_with fail
  refine bodyPost_ret (v := .agg #[.int .u8 2, .string (dgS n), .int .i64 0]) ?_ rfl ⟨rfl, ?_⟩
  · simp [results, Tryz.results69, go_sem, c0, c1, c2, f0, f1, f2]
  · exact ((HB.out.setCell (by simp) _).setCell (by simp) _).setCell (by simp) _

theorem printNumber_any (n : Int) (w : World) (h0 : 0 ≤ n) (h1 : n < 4294967296) (ht : Pow10 w) : Calls Tryz.prog 52 #[.int .u32 n] w fun e w' => e = .returned (tokV (3, dgS n, 0)) ∧ Below w.heap.size w w' := by
  have hb0 : Below w.heap.size w (w.alloc (.cells #[.int .u8 0, .string ⟨#[]⟩, .int .i64 0] 41)) := (Below.refl _ w).alloc (Nat.le_refl _) _
  have hF := printDigits_any n _ h0 h1 (ht.below hb0)
  have hk := heap_alloc_new w (.cells #[.int .u8 0, .string ⟨#[]⟩, .int .i64 0] 41)
  go_enter Tryz.func52, Tryz.ntmps52
  go_wp2_with fail
  generalize w.alloc (.cells #[.int .u8 0, .string ⟨#[]⟩, .int .i64 0] 41) = W at *
  refine hF.mono ?_
  rintro e w' ⟨rfl, hb⟩
  have HB := Lib.hid (hb0.trans (hb.mono hb0.size))
  have hk2 := (hb.block w.heap.size (Array.getElem?_eq_some_iff.1 hk).1).trans hk
  have c0 := (one_block hk2).1 0
  have c1 := (one_block hk2).1 1
  have c2 := (one_block hk2).1 2
  have f := (one_block hk2).2
  have f0 := f 0
  have f1 := f 1
  have f2 := f 2
  clear hF hb hb0 hk hk2 f
  go_wp2_with fail
  refine bodyPost_ret (v := .agg #[.int .u8 3, .string (dgS n), .int .i64 0]) ?_ rfl ⟨rfl, ?_⟩
  · simp [results, Tryz.results52, go_sem, c0, c1, c2, f0, f1, f2]
  · exact ((HB.out.setCell (by simp) _).setCell (by simp) _).setCell (by simp) _

end Go.Proofs.YtkfflhonpnogdabGreatDoor

/-
  A frame as its slots: any frame of so many slots is the list of them.
-/
namespace Go.Proofs.YtkfflhonpnogdabGreatDoor
open Go

theorem hide {p : Prop} (h : p) : Go.RowKit.Hid p := h
/-- What holds where a piece of code goes on. -/
def onNormal (K : Act → World → Prop) : Exit → Act → World → Prop
  | .normal, a, w => K a w
  | _, _, _ => False
theorem onNormal_normal (K : Act → World → Prop) (a : Act) (w : World) : onNormal K .normal a w = K a w := rfl
end Go.Proofs.YtkfflhonpnogdabGreatDoor
