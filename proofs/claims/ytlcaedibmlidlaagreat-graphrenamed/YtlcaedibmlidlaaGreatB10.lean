/-
  Texts laid together in one: MathV, MathW, MathJ, LayoutKindO, LayoutKindA, LayoutKindB, LayoutKindC, LayoutKindD, LayoutKindE, LayoutKindF, LayoutKindOf, KitInst, KitModule, LayoutWalk0, LayoutEnds, MathK.
-/
import Derived.Test.YtlcaedibmlidlaaGreatB06
import Derived.Test.YtlcaedibmlidlaaGreatB09
import Derived.Test.YtlcaedibmlidlaaGreatB01
import Derived.WalkSpells
import Derived.Test.YtlcaedibmlidlaaGreatProg
import Derived.Deep.QuietTactic
import Derived.BigQuiet
import Derived.BigRegion
import Derived.Deep.RegionWith
import Derived.Deep.DrawnRows
import Derived.WalkMore
import Derived.Test.YtlcaedibmlidlaaGreatB07
/-
  Plain facts on instructions with other ids.
-/
namespace Go.Proofs.YtlcaedibmlidlaaGreat
open Go.RowKit
set_option linter.unusedVariables false

/-- An argument, an instruction, instructions with f i for each id i. -/
def tA (f : Int → Int) (a : ArgT) : ArgT := if a.1 = 1 then (a.1, f a.2.1, a.2.2) else a
def tN (f : Int → Int) (i : Int) : Int := if i = 0 then 0 else f i
def turnX (f : Int → Int) (x : InstT) : InstT := (x.1, tN f x.2.1, tN f x.2.2.1, x.2.2.2.map (tA f))
def turnL (f : Int → Int) (l : List InstT) : List InstT := l.map (turnX f)
/-- Its arguments, when the first k have been turned. -/
def turnTo (f : Int → Int) (l : List ArgT) (k : Nat) : List ArgT := (l.take k).map (tA f) ++ l.drop k
theorem turnTo_zero (f : Int → Int) (l : List ArgT) : turnTo f l 0 = l := by simp [turnTo]
theorem turnTo_all (f : Int → Int) (l : List ArgT) : turnTo f l l.length = l.map (tA f) := by simp [turnTo]
theorem turnTo_len (f : Int → Int) (l : List ArgT) (k : Nat) : (turnTo f l k).length = l.length := by simp [turnTo]; omega
theorem turnTo_at (f : Int → Int) (l : List ArgT) (k : Nat) (hk : k < l.length) : nthA (turnTo f l k) k = nthA l k := by
  unfold nthA turnTo
  have hl : ((l.take k).map (tA f)).length = k := by simp; omega
  rw [List.getD_eq_getElem?_getD, List.getD_eq_getElem?_getD, List.getElem?_append_right (by omega), hl, Nat.sub_self, List.getElem?_drop, Nat.add_zero]
theorem turnTo_set (f : Int → Int) (l : List ArgT) (k : Nat) (hk : k < l.length) : (turnTo f l k).set k (tA f (nthA l k)) = turnTo f l (k + 1) := by
  unfold turnTo
  have hl : ((l.take k).map (tA f)).length = k := by simp; omega
  rw [List.set_append_right _ _ (by omega), hl, Nat.sub_self, List.drop_eq_getElem_cons hk, List.set_cons_zero, List.take_add_one, List.getElem?_eq_getElem hk]
  have : nthA l k = l[k] := by simp [nthA, List.getD, hk]
  rw [this, List.map_append, List.append_assoc]
  rfl
theorem turnTo_same (f : Int → Int) (l : List ArgT) (k : Nat) (hk : k < l.length) (h : (nthA l k).1 ≠ 1) : turnTo f l (k + 1) = turnTo f l k := by
  rw [← turnTo_set f l k hk]
  have e : tA f (nthA l k) = nthA (turnTo f l k) k := by rw [turnTo_at f l k hk]; simp [tA, h]
  rw [e]
  have hk' : k < (turnTo f l k).length := by rw [turnTo_len]; exact hk
  have e2 : nthA (turnTo f l k) k = (turnTo f l k)[k] := by simp [nthA, List.getD, hk']
  rw [e2, List.set_getElem_self]
theorem flat_argU : ∀ (l : List ArgT) (k j : Nat), k < l.length → j < 3 → (l.flatMap argC)[k * 3 + j]? = (argC (nthA l k))[j]?
  | [], k, j, h, _ => by simp at h
  | x :: l, 0, j, _, hj => by
    rw [List.flatMap_cons, List.getElem?_append_left (by simp [argC]; omega)]
    simp [nthA]
  | x :: l, k + 1, j, h, hj => by
    rw [List.flatMap_cons, List.getElem?_append_right (by simp [argC]; omega)]
    have e : (k + 1) * 3 + j - (argC x).length = k * 3 + j := by simp [argC]; omega
    rw [e, flat_argU l k j (by simpa using h) hj]
    simp [nthA]
theorem flat_lenU (l : List ArgT) : (l.flatMap argC).length = l.length * 3 := by
  induction l with
  | nil => rfl
  | cons x l ih => rw [List.flatMap_cons, List.length_append, ih]; simp [argC]; omega
theorem flat_setU : ∀ (l : List ArgT) (k : Nat) (v : Int), k < l.length → (l.flatMap argC).set (k * 3 + 1) (.int .u32 v) = (l.set k ((nthA l k).1, v, (nthA l k).2.2)).flatMap argC
  | [], k, v, h => by simp at h
  | x :: l, 0, v, _ => by simp [argC, nthA]
  | x :: l, k + 1, v, h => by
    have e : (k + 1) * 3 + 1 = (argC x).length + (k * 3 + 1) := by simp [argC]; omega
    rw [List.flatMap_cons, e, List.set_append_right _ _ (by omega), Nat.add_sub_cancel_left, flat_setU l k v (by simpa using h)]
    simp [nthA]
/-- A store of a turned id. -/
theorem turn_set (f : Int → Int) (l : List ArgT) (k : Nat) (hk : k < l.length) (h : (nthA l k).1 = 1) : ((turnTo f l k).flatMap argC).set (k * 3 + 1) (.int .u32 (f (nthA l k).2.1)) = (turnTo f l (k + 1)).flatMap argC := by
  rw [flat_setU _ _ _ (by rw [turnTo_len]; exact hk), turnTo_at f l k hk, ← turnTo_set f l k hk]
  congr 2
  simp [tA, h]
theorem turnL_len (f : Int → Int) (l : List InstT) : (turnL f l).length = l.length := by simp [turnL]
theorem turnL_at (f : Int → Int) (l : List InstT) (k : Nat) (hk : k < l.length) : nthI (turnL f l) k = turnX f (nthI l k) := by simp [nthI, turnL, List.getD, hk]
theorem tA_ok {f : Int → Int} (hf : ∀ i, 0 ≤ f i ∧ f i < 4294967296) {a : ArgT} (h : ArgOk a) : ArgOk (tA f a) := by
  unfold tA
  split
  · exact ⟨h.1, h.2.1, (hf _).1, (hf _).2, h.2.2.2.2⟩
  · exact h
theorem turnX_ok {f : Int → Int} (hf : ∀ i, 0 ≤ f i ∧ f i < 4294967296) {x : InstT} (h : InstOk x) : InstOk (turnX f x) := by
  obtain ⟨h1, h2, h3, h4, h5, h6, h7, h8⟩ := h
  have ht : ∀ i, 0 ≤ tN f i ∧ tN f i < 4294967296 := fun i => by unfold tN; split; exact ⟨by omega, by omega⟩; exact hf i
  refine ⟨h1, h2, (ht _).1, (ht _).2, (ht _).1, (ht _).2, fun j hj => ?_, by simpa [turnX] using h8⟩
  simp only [turnX, List.length_map] at hj
  have : nthA (turnX f x).2.2.2 j = tA f (nthA x.2.2.2 j) := by simp [turnX, nthA, List.getD, hj]
  rw [this]
  exact tA_ok hf (h7 j hj)
theorem turnL_ok {f : Int → Int} (hf : ∀ i, 0 ≤ f i ∧ f i < 4294967296) {l : List InstT} (h : InstsOk l) : InstsOk (turnL f l) := fun k hk => by
  rw [turnL_len] at hk
  rw [turnL_at f l k hk]
  exact turnX_ok hf (h k hk)
end Go.Proofs.YtlcaedibmlidlaaGreat

/-
  Plain facts on numbers that are those below a bound, each once.
-/
namespace Go.Proofs.YtlcaedibmlidlaaGreat
open Go.RowKit
set_option linter.unusedVariables false

theorem nodup_len : ∀ (l l' : List Int), l.Nodup → (∀ x ∈ l, x ∈ l') → l.length ≤ l'.length
  | [], _, _, _ => by simp
  | a :: t, l', hn, hs => by
    have ha := hs a (by simp)
    obtain ⟨hn1, hn2⟩ := List.nodup_cons.1 hn
    have := nodup_len t (l'.erase a) hn2 (fun x hx => (List.mem_erase_of_ne (fun e => hn1 (by rw [← e]; exact hx))).2 (hs x (by simp [hx])))
    rw [List.length_erase_of_mem ha] at this
    have hp := List.length_pos_of_mem ha
    simp only [List.length_cons]
    omega
/-- The numbers from 1 to m. -/
def upTo (m : Nat) : List Int := (List.range m).map fun (k : Nat) => (k : Int) + 1
theorem upTo_len (m : Nat) : (upTo m).length = m := by simp [upTo]
theorem upTo_mem (m : Nat) (i : Int) : i ∈ upTo m ↔ 1 ≤ i ∧ i ≤ m := by
  unfold upTo
  rw [List.mem_map]
  constructor
  · rintro ⟨k, hk, rfl⟩; rw [List.mem_range] at hk; omega
  · rintro ⟨h1, h2⟩; exact ⟨(i - 1).toNat, by rw [List.mem_range]; omega, by omega⟩
end Go.Proofs.YtlcaedibmlidlaaGreat

/-
  Plain facts on the ids of a module of good shape: each lies below the bound; other ids by a list.
-/
namespace Go.Proofs.YtlcaedibmlidlaaGreat
open Go.RowKit
set_option linter.unusedVariables false

def InB (b i : Int) : Prop := 1 ≤ i ∧ i < b
theorem idE_in {must : Bool} {n b e : Int} (h0 : 0 ≤ n) (he : e ≠ 0) (h : idE must n b e = 0) (hn : n ≠ 0) : InB b n := by
  unfold idE at h
  split at h
  · exact absurd h he
  · rename_i h1
    simp [hn] at h1
    subst h1
    split at h
    · cases h
    · rename_i h2
      simp at h2
      exact ⟨by omega, by omega⟩
theorem wrongA_in {c : Int} {x : ArgT} {b : Int} (h0 : 0 ≤ x.2.1) (h : wrongA c x b = 0) (hk : x.1 = 1) : InB b x.2.1 := by
  unfold wrongA at h
  split at h
  · cases h
  · rename_i h1
    rw [if_neg (by omega)] at h
    have hm : mayStandB c x = true := by simpa using h1
    unfold mayStandB at hm
    simp only [Bool.and_eq_true, beq_iff_eq] at hm
    have hkc : kindI c = 1 := by rw [← hm.1.2]; exact hk
    unfold faultW at h
    rw [if_pos hkc] at h
    split at h
    · cases h
    · rename_i h2
      unfold noneB at h2
      simp at h2
      exact ⟨by omega, by omega⟩
theorem wrongL_in {f : Frm} {b : Int} : ∀ (l : List ArgT) (k : Nat), wrongL f b k l = 0 → ∀ j, j < l.length → wrongA (letterI f ((k + j : Nat) : Int)) (nthA l j) b = 0
  | [], _, _, j, hj => by simp at hj
  | x :: l, k, h, j, hj => by
    rw [wrongL] at h
    by_cases h1 : wrongA (letterI f k) x b = 0
    · rw [if_pos h1] at h
      cases j with
      | zero => simpa [nthA] using h1
      | succ j =>
        have := wrongL_in l (k + 1) h j (by simpa using hj)
        rw [show k + (j + 1) = k + 1 + j by omega]
        simpa [nthA] using this
    · rw [if_neg h1] at h; exact absurd h h1
/-- The ids of an instruction that can be written lie below the bound. -/
theorem ids_in {x : InstT} {b : Int} (hok : InstOk x) (h : rawE x b = 0) : (x.2.1 ≠ 0 → InB b x.2.1) ∧ (x.2.2.1 ≠ 0 → InB b x.2.2.1) ∧ ∀ j, j < x.2.2.2.length → (nthA x.2.2.2 j).1 = 1 → InB b (nthA x.2.2.2 j).2.1 := by
  obtain ⟨_, h2, _⟩ := rawWs_ok h
  obtain ⟨i1, i2, i3, _, _⟩ := faultI_zero h2
  obtain ⟨_, _, a3, _, a5, _, a7, _⟩ := hok
  refine ⟨fun hn => idE_in a3 (by decide) i1 hn, fun hn => idE_in a5 (by decide) i2 hn, fun j hj hk => ?_⟩
  exact wrongA_in (a7 j hj).2.2.1 (wrongL_in _ 0 i3 j hj) hk
end Go.Proofs.YtlcaedibmlidlaaGreat

/-
  Sums of bits.
-/
namespace Go.Proofs.YtlcaedibmlidlaaGreat
open Go.RowKit
set_option linter.unusedVariables false
set_option linter.unusedSimpArgs false

theorem or512 : bits .or .u16 0 512 = 512 := by decide +kernel
theorem or2048 : bits .or .u16 0 2048 = 2048 := by decide +kernel
theorem or1024 : bits .or .u16 0 1024 = 1024 := by decide +kernel
theorem or2560 : bits .or .u16 2048 512 = 2560 := by decide +kernel
theorem or3072 : bits .or .u16 1024 2048 = 3072 := by decide +kernel
theorem or3584 : bits .or .u16 3072 512 = 3584 := by decide +kernel

end Go.Proofs.YtlcaedibmlidlaaGreat

/-
  What kindOf of the package layout answers, of some operations.
-/
namespace Go.Proofs.YtlcaedibmlidlaaGreat
open Go.RowKit
set_option linter.unusedVariables false
set_option linter.unusedSimpArgs false

set_option maxHeartbeats 1000000 in
theorem kindOf_54 (w : World) : Calls Tryz.prog 131 #[.int .u16 54] w fun e w' => e = .returned (.int .u16 1) ∧ w = w' := by
  go_enter Tryz.func131, Tryz.ntmps131
  go_wp2
  go_ret
  simp [or512, or1024, or2048, or2560, or3072, or3584]

set_option maxHeartbeats 1000000 in
theorem kindOf_55 (w : World) : Calls Tryz.prog 131 #[.int .u16 55] w fun e w' => e = .returned (.int .u16 2) ∧ w = w' := by
  go_enter Tryz.func131, Tryz.ntmps131
  go_wp2
  go_ret
  simp [or512, or1024, or2048, or2560, or3072, or3584]

set_option maxHeartbeats 1000000 in
theorem kindOf_56 (w : World) : Calls Tryz.prog 131 #[.int .u16 56] w fun e w' => e = .returned (.int .u16 4) ∧ w = w' := by
  go_enter Tryz.func131, Tryz.ntmps131
  go_wp2
  go_ret
  simp [or512, or1024, or2048, or2560, or3072, or3584]

set_option maxHeartbeats 1000000 in
theorem kindOf_248 (w : World) : Calls Tryz.prog 131 #[.int .u16 248] w fun e w' => e = .returned (.int .u16 8) ∧ w = w' := by
  go_enter Tryz.func131, Tryz.ntmps131
  go_wp2
  go_ret
  simp [or512, or1024, or2048, or2560, or3072, or3584]

set_option maxHeartbeats 1000000 in
theorem kindOf_59 (w : World) : Calls Tryz.prog 131 #[.int .u16 59] w fun e w' => e = .returned (.int .u16 16) ∧ w = w' := by
  go_enter Tryz.func131, Tryz.ntmps131
  go_wp2
  go_ret
  simp [or512, or1024, or2048, or2560, or3072, or3584]

set_option maxHeartbeats 1000000 in
theorem kindOf_245 (w : World) : Calls Tryz.prog 131 #[.int .u16 245] w fun e w' => e = .returned (.int .u16 32) ∧ w = w' := by
  go_enter Tryz.func131, Tryz.ntmps131
  go_wp2
  go_ret
  simp [or512, or1024, or2048, or2560, or3072, or3584]

end Go.Proofs.YtlcaedibmlidlaaGreat

/-
  What kindOf of the package layout answers, of some operations.
-/
namespace Go.Proofs.YtlcaedibmlidlaaGreat
open Go.RowKit
set_option linter.unusedVariables false
set_option linter.unusedSimpArgs false

set_option maxHeartbeats 1000000 in
theorem kindOf_247 (w : World) : Calls Tryz.prog 131 #[.int .u16 247] w fun e w' => e = .returned (.int .u16 128) ∧ w = w' := by
  go_enter Tryz.func131, Tryz.ntmps131
  go_wp2
  go_ret
  simp [or512, or1024, or2048, or2560, or3072, or3584]

set_option maxHeartbeats 1000000 in
theorem kindOf_246 (w : World) : Calls Tryz.prog 131 #[.int .u16 246] w fun e w' => e = .returned (.int .u16 256) ∧ w = w' := by
  go_enter Tryz.func131, Tryz.ntmps131
  go_wp2
  go_ret
  simp [or512, or1024, or2048, or2560, or3072, or3584]

set_option maxHeartbeats 1000000 in
theorem kindOf_250 (w : World) : Calls Tryz.prog 131 #[.int .u16 250] w fun e w' => e = .returned (.int .u16 3584) ∧ w = w' := by
  go_enter Tryz.func131, Tryz.ntmps131
  go_wp2
  go_ret
  simp [or512, or1024, or2048, or2560, or3072, or3584]

end Go.Proofs.YtlcaedibmlidlaaGreat

/-
  What kindOf of the package layout answers, of some operations.
-/
namespace Go.Proofs.YtlcaedibmlidlaaGreat
open Go.RowKit
set_option linter.unusedVariables false
set_option linter.unusedSimpArgs false

set_option maxHeartbeats 1000000 in
theorem kindOf_249 (w : World) : Calls Tryz.prog 131 #[.int .u16 249] w fun e w' => e = .returned (.int .u16 2560) ∧ w = w' := by
  go_enter Tryz.func131, Tryz.ntmps131
  go_wp2
  go_ret
  simp [or512, or1024, or2048, or2560, or3072, or3584]

set_option maxHeartbeats 1000000 in
theorem kindOf_252 (w : World) : Calls Tryz.prog 131 #[.int .u16 252] w fun e w' => e = .returned (.int .u16 512) ∧ w = w' := by
  go_enter Tryz.func131, Tryz.ntmps131
  go_wp2
  go_ret
  simp [or512, or1024, or2048, or2560, or3072, or3584]

end Go.Proofs.YtlcaedibmlidlaaGreat

/-
  What kindOf of the package layout answers, of some operations.
-/
namespace Go.Proofs.YtlcaedibmlidlaaGreat
open Go.RowKit
set_option linter.unusedVariables false
set_option linter.unusedSimpArgs false

set_option maxHeartbeats 1000000 in
theorem kindOf_253 (w : World) : Calls Tryz.prog 131 #[.int .u16 253] w fun e w' => e = .returned (.int .u16 512) ∧ w = w' := by
  go_enter Tryz.func131, Tryz.ntmps131
  go_wp2
  go_ret
  simp [or512, or1024, or2048, or2560, or3072, or3584]

set_option maxHeartbeats 1000000 in
theorem kindOf_254 (w : World) : Calls Tryz.prog 131 #[.int .u16 254] w fun e w' => e = .returned (.int .u16 512) ∧ w = w' := by
  go_enter Tryz.func131, Tryz.ntmps131
  go_wp2
  go_ret
  simp [or512, or1024, or2048, or2560, or3072, or3584]

end Go.Proofs.YtlcaedibmlidlaaGreat

/-
  What kindOf of the package layout answers, of some operations.
-/
namespace Go.Proofs.YtlcaedibmlidlaaGreat
open Go.RowKit
set_option linter.unusedVariables false
set_option linter.unusedSimpArgs false

set_option maxHeartbeats 1000000 in
theorem kindOf_255 (w : World) : Calls Tryz.prog 131 #[.int .u16 255] w fun e w' => e = .returned (.int .u16 512) ∧ w = w' := by
  go_enter Tryz.func131, Tryz.ntmps131
  go_wp2
  go_ret
  simp [or512, or1024, or2048, or2560, or3072, or3584]

set_option maxHeartbeats 1000000 in
theorem kindOf_251 (w : World) : Calls Tryz.prog 131 #[.int .u16 251] w fun e w' => e = .returned (.int .u16 1536) ∧ w = w' := by
  go_enter Tryz.func131, Tryz.ntmps131
  go_wp2
  go_ret
  simp [or512, or1024, or2048, or2560, or3072, or3584]

end Go.Proofs.YtlcaedibmlidlaaGreat

/-
  What kindOf of the package layout answers, of some operations.
-/
namespace Go.Proofs.YtlcaedibmlidlaaGreat
open Go.RowKit
set_option linter.unusedVariables false
set_option linter.unusedSimpArgs false

set_option maxHeartbeats 1000000 in
theorem kindOf_other (op : Int) (w : World) (h54 : (op == 54) = false) (h55 : (op == 55) = false) (h56 : (op == 56) = false) (h248 : (op == 248) = false) (h59 : (op == 59) = false) (h245 : (op == 245) = false) (h247 : (op == 247) = false) (h246 : (op == 246) = false) (h250 : (op == 250) = false) (h249 : (op == 249) = false) (h252 : (op == 252) = false) (h253 : (op == 253) = false) (h254 : (op == 254) = false) (h255 : (op == 255) = false) (h251 : (op == 251) = false) : Calls Tryz.prog 131 #[.int .u16 op] w fun e w' => e = .returned (.int .u16 64) ∧ w = w' := by
  go_enter Tryz.func131, Tryz.ntmps131
  go_wp2
  go_ret
  simp

end Go.Proofs.YtlcaedibmlidlaaGreat

/-
  What kindOf and Ends of the package layout answer, and Ends of the document.
-/
namespace Go.Proofs.YtlcaedibmlidlaaGreat
open Go.RowKit
set_option linter.unusedVariables false
set_option linter.unusedSimpArgs false

/-- What an operation is in a function. -/
def kindOp (op : Int) : Int :=
  if op = 54 then 1 else if op = 55 then 2 else if op = 56 then 4 else if op = 248 then 8 else if op = 59 then 16 else if op = 245 then 32 else if op = 247 then 128 else if op = 246 then 256
  else if op = 250 then 3584 else if op = 249 then 2560 else if op = 252 ∨ op = 253 ∨ op = 254 ∨ op = 255 then 512 else if op = 251 then 1536 else 64
/-- Does it end a block? -/
def endsB (op : Int) : Bool := decide (249 ≤ op) && decide (op ≤ 255)

theorem kindOf_any (op : Int) (w : World) : Calls Tryz.prog 131 #[.int .u16 op] w fun e w' => e = .returned (.int .u16 (kindOp op)) ∧ w = w' := by
  by_cases h54 : op = 54
  · subst h54; exact kindOf_54 w
  by_cases h55 : op = 55
  · subst h55; exact kindOf_55 w
  by_cases h56 : op = 56
  · subst h56; exact kindOf_56 w
  by_cases h248 : op = 248
  · subst h248; exact kindOf_248 w
  by_cases h59 : op = 59
  · subst h59; exact kindOf_59 w
  by_cases h245 : op = 245
  · subst h245; exact kindOf_245 w
  by_cases h247 : op = 247
  · subst h247; exact kindOf_247 w
  by_cases h246 : op = 246
  · subst h246; exact kindOf_246 w
  by_cases h250 : op = 250
  · subst h250; exact kindOf_250 w
  by_cases h249 : op = 249
  · subst h249; exact kindOf_249 w
  by_cases h252 : op = 252
  · subst h252; exact kindOf_252 w
  by_cases h253 : op = 253
  · subst h253; exact kindOf_253 w
  by_cases h254 : op = 254
  · subst h254; exact kindOf_254 w
  by_cases h255 : op = 255
  · subst h255; exact kindOf_255 w
  by_cases h251 : op = 251
  · subst h251; exact kindOf_251 w
  have e : kindOp op = 64 := by
    unfold kindOp
    simp [h54, h55, h56, h248, h59, h245, h247, h246, h250, h249, h252, h253, h254, h255, h251]
  rw [e]
  exact kindOf_other op w (by simpa using h54) (by simpa using h55) (by simpa using h56) (by simpa using h248) (by simpa using h59) (by simpa using h245) (by simpa using h247) (by simpa using h246) (by simpa using h250) (by simpa using h249) (by simpa using h252) (by simpa using h253) (by simpa using h254) (by simpa using h255) (by simpa using h251)

end Go.Proofs.YtlcaedibmlidlaaGreat

/-
  Inst of the kit tells whether two instructions are the same.
-/
namespace Go.Proofs.YtlcaedibmlidlaaGreat
open Go.RowKit
set_option maxRecDepth 10000

theorem two_boxes (w : World) (o p : Obj) : Below w.heap.size w ((w.alloc o).alloc p) := ((Below.refl _ w).alloc (Nat.le_refl _) _).alloc (by simp) _

end Go.Proofs.YtlcaedibmlidlaaGreat

/-
  Module of the kit tells whether two modules are the same.
-/
namespace Go.Proofs.YtlcaedibmlidlaaGreat
open Go.RowKit
set_option maxRecDepth 10000

def modV (g b : Int) (a : Option Addr) (n c : Nat) : Value := .agg #[.int .u32 g, .int .u32 b, .slice a n c]

end Go.Proofs.YtlcaedibmlidlaaGreat

/-
  A walk over a module's instructions, in memory; partOf of the package layout.
-/
namespace Go.Proofs.YtlcaedibmlidlaaGreat
open Go.RowKit
set_option linter.unusedVariables false
set_option linter.unusedSimpArgs false
set_option maxRecDepth 10000

/-- The part of an operation. -/
def partO (op : Int) : Int := if (lookF refT op).2 then (lookF refT op).1.2.2.2.2.2.2 else 0
/-- The part of an instruction. -/
def partI (x : InstT) : Int := if x.1 = 59 ∧ (nthA x.2.2.2 0).2.1 = 7 then 8 else partO x.1
/-- What it is to a function's order. -/
def kindX (x : InstT) : Int := if partI x = 8 then kindOp x.1 else 0
/-- What is next at a place: part and kind. -/
def partAt (l : List InstT) (k : Nat) : Int := if k < l.length then partI (nthI l k) else 9
def kindAt (l : List InstT) (k : Nat) : Int := if k < l.length then kindX (nthI l k) else 0

/-- A variable has an argument. -/
theorem var_args {x : InstT} {b : Int} (h : rawE x b = 0) (h5 : x.1 = 59) : 1 ≤ x.2.2.2.length := by
  obtain ⟨h1, h2, _⟩ := rawWs_ok h
  have h4 := (faultI_zero h2).2.2.2.1
  rw [h5] at h4
  have e1 : (lookF refT 59).1.2.2.2.1.size = 1 := by kernel_rfl
  unfold wholeN at h4
  rw [e1] at h4
  split at h4
  · cases h4
  · omega

/-- Only block B and new blocks turn. -/
structure KeepB (B : Nat) (w w' : World) : Prop where
  os : w'.os = w.os
  tape : w'.tape = w.tape
  output : w'.output = w.output
  size : w.heap.size ≤ w'.heap.size
  block : ∀ k, k < w.heap.size → k ≠ B → w'.heap[k]? = w.heap[k]?
theorem KeepB.refl (B : Nat) (w : World) : KeepB B w w := ⟨rfl, rfl, rfl, Nat.le_refl _, fun _ _ _ => rfl⟩
theorem KeepB.trans {B : Nat} {w w' w'' : World} (h : KeepB B w w') (h' : KeepB B w' w'') : KeepB B w w'' :=
  ⟨h'.os.trans h.os, h'.tape.trans h.tape, h'.output.trans h.output, Nat.le_trans h.size h'.size, fun k hk hb => (h'.block k (Nat.lt_of_lt_of_le hk h.size) hb).trans (h.block k hk hb)⟩
theorem KeepB.of_below {B : Nat} {w w' : World} (h : Below w.heap.size w w') : KeepB B w w' := ⟨h.os, h.tape, h.output, h.size, fun k hk _ => h.block k hk⟩
theorem KeepB.set {B : Nat} (w : World) (i : Nat) (v : Value) : KeepB B w (w.setCell ⟨B, i, none⟩ v) := ⟨rfl, rfl, rfl, by rw [World.size_setCell]; exact Nat.le_refl _, fun k _ hb => Below.heap_setCell _ _ _ _ (by simpa using hb)⟩

/-- The walk's box at block B: instructions, parts, functions, place, part, kind. -/
structure WkB (B : Nat) (ins : Value) (ps : Nat → Int) (fv : Value) (at_ part kind : Int) (W : World) : Prop where
  blk : ∃ cs : Array Value, W.heap[B]? = some (.cells cs 86 (0, 0)) ∧ cs.size = 25 ∧ cs[0]? = some ins ∧ (∀ i, i < 20 → cs[1 + i]? = some (.int .i64 (ps i))) ∧ cs[21]? = some fv ∧ cs[22]? = some (.int .i64 at_) ∧ cs[23]? = some (.int .u8 part) ∧ cs[24]? = some (.int .u16 kind)
theorem WkB.lt {B : Nat} {ins : Value} {ps : Nat → Int} {fv : Value} {at_ part kind : Int} {W : World} (h : WkB B ins ps fv at_ part kind W) : B < W.heap.size := by obtain ⟨cs, h1, _⟩ := h.blk; exact (Array.getElem?_eq_some_iff.1 h1).1
theorem WkB.block {B : Nat} {ins : Value} {ps : Nat → Int} {fv : Value} {at_ part kind : Int} {W W' : World} (h : WkB B ins ps fv at_ part kind W) (hb : W'.heap[B]? = W.heap[B]?) : WkB B ins ps fv at_ part kind W' := by
  obtain ⟨cs, h1, h2⟩ := h.blk; exact ⟨cs, hb.trans h1, h2⟩
theorem WkB.below {B : Nat} {ins : Value} {ps : Nat → Int} {fv : Value} {at_ part kind : Int} {W W' : World} (h : WkB B ins ps fv at_ part kind W) (hb : Below W.heap.size W W') : WkB B ins ps fv at_ part kind W' := h.block (hb.block B h.lt)
theorem WkB.cells {B : Nat} {ins : Value} {ps : Nat → Int} {fv : Value} {at_ part kind : Int} {W : World} (h : WkB B ins ps fv at_ part kind W) : W.cell? ⟨B, 0, none⟩ = some ins ∧ (∀ i, i < 20 → W.cell? ⟨B, 1 + i, none⟩ = some (.int .i64 (ps i))) ∧ W.cell? ⟨B, 21, none⟩ = some fv ∧ W.cell? ⟨B, 22, none⟩ = some (.int .i64 at_) ∧ W.cell? ⟨B, 23, none⟩ = some (.int .u8 part) ∧ W.cell? ⟨B, 24, none⟩ = some (.int .u16 kind) ∧ ∀ i, W.frozen? ⟨B, i, none⟩ = false := by
  obtain ⟨cs, h1, h2, h3, h4, h5, h6, h7, h8⟩ := h.blk
  have e : ∀ i, W.cell? ⟨B, i, none⟩ = cs[i]? := fun i => by simp [World.cell?, h1]
  exact ⟨(e 0).trans h3, fun i hi => (e _).trans (h4 i hi), (e 21).trans h5, (e 22).trans h6, (e 23).trans h7, (e 24).trans h8, fun i => by simp [World.frozen?, h1]⟩
theorem WkB.put {B : Nat} {ins : Value} {ps : Nat → Int} {fv : Value} {at_ part kind : Int} {W : World} (h : WkB B ins ps fv at_ part kind W) (i : Nat) (v : Value) {ins' : Value} {ps' : Nat → Int} {fv' : Value} {at' part' kind' : Int}
    (k0 : (if i = 0 then v else ins) = ins') (kp : ∀ j, j < 20 → (if i = 1 + j then v else .int .i64 (ps j)) = .int .i64 (ps' j)) (k21 : (if i = 21 then v else fv) = fv') (k22 : (if i = 22 then v else .int .i64 at_) = .int .i64 at') (k23 : (if i = 23 then v else .int .u8 part) = .int .u8 part') (k24 : (if i = 24 then v else .int .u16 kind) = .int .u16 kind') : WkB B ins' ps' fv' at' part' kind' (W.setCell ⟨B, i, none⟩ v) := by
  obtain ⟨cs, h1, h2, h3, h4, h5, h6, h7, h8⟩ := h.blk
  have e : ∀ (j : Nat) (u u' : Value), j < 25 → cs[j]? = some u → (if i = j then v else u) = u' → (cs.setIfInBounds i v)[j]? = some u' := fun j u u' hj hu hk => by
    by_cases hij : i = j
    · subst hij; rw [if_pos rfl] at hk; rw [Array.getElem?_setIfInBounds_self_of_lt (by omega), hk]
    · rw [if_neg hij] at hk; rw [Array.getElem?_setIfInBounds_ne hij, hu, hk]
  exact ⟨cs.setIfInBounds i v, by simp [World.setCell, Array.getElem?_modify, h1], by simp [h2], e 0 _ _ (by omega) h3 k0, fun j hj => e (1 + j) _ _ (by omega) (h4 j hj) (kp j hj), e 21 _ _ (by omega) h5 k21, e 22 _ _ (by omega) h6 k22, e 23 _ _ (by omega) h7 k23, e 24 _ _ (by omega) h8 k24⟩
theorem WkB.setAt {B : Nat} {ins : Value} {ps : Nat → Int} {fv : Value} {at_ part kind : Int} {W : World} (h : WkB B ins ps fv at_ part kind W) (x : Int) : WkB B ins ps fv x part kind (W.setCell ⟨B, 22, none⟩ (.int .i64 x)) := h.put 22 _ (by simp) (fun j hj => by rw [if_neg (by omega)]) (by simp) (by simp) (by simp) (by simp)
theorem WkB.setPart {B : Nat} {ins : Value} {ps : Nat → Int} {fv : Value} {at_ part kind : Int} {W : World} (h : WkB B ins ps fv at_ part kind W) (x : Int) : WkB B ins ps fv at_ x kind (W.setCell ⟨B, 23, none⟩ (.int .u8 x)) := h.put 23 _ (by simp) (fun j hj => by rw [if_neg (by omega)]) (by simp) (by simp) (by simp) (by simp)
theorem WkB.setKind {B : Nat} {ins : Value} {ps : Nat → Int} {fv : Value} {at_ part kind : Int} {W : World} (h : WkB B ins ps fv at_ part kind W) (x : Int) : WkB B ins ps fv at_ part x (W.setCell ⟨B, 24, none⟩ (.int .u16 x)) := h.put 24 _ (by simp) (fun j hj => by rw [if_neg (by omega)]) (by simp) (by simp) (by simp) (by simp)
theorem WkB.setFuncs {B : Nat} {ins : Value} {ps : Nat → Int} {fv : Value} {at_ part kind : Int} {W : World} (h : WkB B ins ps fv at_ part kind W) (x : Value) : WkB B ins ps x at_ part kind (W.setCell ⟨B, 21, none⟩ x) := h.put 21 _ (by simp) (fun j hj => by rw [if_neg (by omega)]) (by simp) (by simp) (by simp) (by simp)
theorem WkB.setSpan {B : Nat} {ins : Value} {ps : Nat → Int} {fv : Value} {at_ part kind : Int} {W : World} (h : WkB B ins ps fv at_ part kind W) (i : Nat) (hi : i < 20) (x : Int) : WkB B ins (fun j => if j = i then x else ps j) fv at_ part kind (W.setCell ⟨B, 1 + i, none⟩ (.int .i64 x)) := h.put (1 + i) _ (by rw [if_neg (by omega)]) (fun j hj => by by_cases e : j = i <;> simp [e]; intro e2; exact absurd (by omega) e) (by rw [if_neg (by omega)]) (by rw [if_neg (by omega)]) (by rw [if_neg (by omega)]) (by rw [if_neg (by omega)])

set_option maxHeartbeats 4000000 in
theorem partOf_any (x : InstT) (ax : Option Addr) (n cx : Nat) (w : World) (hv : ArgsV w ax x.2.2.2) (hl : x.2.2.2.length = n) (h59 : x.1 = 59 → 1 ≤ n) :
    Calls Tryz.prog 130 #[instV x ax n cx] w fun e w' => e = .returned (.int .u8 (partI x)) ∧ Below w.heap.size w w' := by
  obtain ⟨xo, xt, xr, xl⟩ := x
  unfold instV partI
  simp only at *
  have hO := fun wx => of_any xo wx
  have hba : Below w.heap.size w (w.alloc (.cells #[.int .u16 xo, .int .u32 xt, .int .u32 xr, .slice ax n cx] 63)) := (Below.refl _ w).alloc (Nat.le_refl _) _
  have HBA := hide hba
  have hof : ∃ nm ty re fx rs mo o, ofV xo = .agg #[.int .u16 o, .string nm, .bool ty, .bool re, .string fx, .string rs, .int .i64 mo, .int .u8 (partO xo)] := by
    unfold ofV partO formV
    cases h : (lookF refT xo).2 with
    | true => exact ⟨_, _, _, _, _, _, _, by simp; exact ⟨rfl, rfl, rfl, rfl, rfl, rfl, rfl⟩⟩
    | false => exact ⟨_, _, _, _, _, _, _, by simp [noFrm]; exact ⟨rfl, rfl, rfl, rfl, rfl, rfl, rfl⟩⟩
  obtain ⟨nm, ty, re, fx, rs, mo, o, ho⟩ := hof
  rw [ho] at hO
  generalize hp : partO xo = po at *
  have OTHER : ¬ (xo = 59 ∧ (nthA xl 0).2.1 = 7) → Calls Tryz.prog 130 #[.agg #[.int .u16 xo, .int .u32 xt, .int .u32 xr, .slice ax n cx]] w fun e w' => e = .returned (.int .u8 po) ∧ Below w.heap.size w w' := by
    intro hno
    by_cases h1 : xo = 59
    · subst h1
      have h7 : (nthA xl 0).2.1 ≠ 7 := fun e => hno ⟨rfl, e⟩
      obtain ⟨ba, oa, rfl, hb, z0, z1, z2⟩ := hv 0 (by have := h59 rfl; omega)
      have hn0 : (0 : Int) < (n : Int) := by have := h59 rfl; omega
      have zz1 := (hba.cell (p := ⟨ba, oa + 0 * 3 + 1, none⟩) hb).trans z1
      rw [show oa + 0 * 3 + 1 = oa + 1 by omega] at zz1
      generalize (nthA xl 0).2.1 = y at *
      have h7' : (y == 7) = false := by simpa using h7
      clear hno h7 hv hl h59 z0 z1 z2 hba hp ho
      go_enter Tryz.func130, Tryz.ntmps130
      go_wp2_with fail
      refine (hO _).mono ?_
      rintro e w1 ⟨rfl, hb1⟩
      have HB1 := hide (HBA.out.trans (hb1.mono HBA.out.size))
      clear hb1 hO zz1
      go_wp2_with fail
      go_ret
      exact ⟨rfl, HB1.out.alloc HB1.out.size _⟩
    · have h1' : (xo == 59) = false := by simpa using h1
      clear hno h1 hv hl h59 hba hp ho
      go_enter Tryz.func130, Tryz.ntmps130
      go_wp2_with fail
      refine (hO _).mono ?_
      rintro e w1 ⟨rfl, hb1⟩
      have HB1 := hide (HBA.out.trans (hb1.mono HBA.out.size))
      clear hb1 hO
      go_wp2_with fail
      go_ret
      exact ⟨rfl, HB1.out.alloc HB1.out.size _⟩
  by_cases hc : xo = 59 ∧ (nthA xl 0).2.1 = 7
  · rw [if_pos hc]
    obtain ⟨rfl, h7⟩ := hc
    obtain ⟨ba, oa, rfl, hb, z0, z1, z2⟩ := hv 0 (by have := h59 rfl; omega)
    have hn0 : (0 : Int) < (n : Int) := by have := h59 rfl; omega
    rw [h7] at z1
    have zz1 := (hba.cell (p := ⟨ba, oa + 0 * 3 + 1, none⟩) hb).trans z1
    rw [show oa + 0 * 3 + 1 = oa + 1 by omega] at zz1
    clear OTHER h7 hv hl h59 z0 z1 z2 hba hp ho hO
    go_enter Tryz.func130, Tryz.ntmps130
    go_wp2_with fail
    go_ret
    exact ⟨rfl, HBA.out⟩
  · rw [if_neg hc]
    exact OTHER hc

end Go.Proofs.YtlcaedibmlidlaaGreat

/-
  What Ends of the package layout and Ends of the document answer.
-/
namespace Go.Proofs.YtlcaedibmlidlaaGreat
open Go.RowKit
set_option linter.unusedVariables false
set_option linter.unusedSimpArgs false

theorem kind_ends (op : Int) : (bits .and .u16 (kindOp op) 512 == 0) = !(endsB op) := by
  by_cases h54 : op = 54
  · subst h54; decide +kernel
  by_cases h55 : op = 55
  · subst h55; decide +kernel
  by_cases h56 : op = 56
  · subst h56; decide +kernel
  by_cases h248 : op = 248
  · subst h248; decide +kernel
  by_cases h59 : op = 59
  · subst h59; decide +kernel
  by_cases h245 : op = 245
  · subst h245; decide +kernel
  by_cases h247 : op = 247
  · subst h247; decide +kernel
  by_cases h246 : op = 246
  · subst h246; decide +kernel
  by_cases h250 : op = 250
  · subst h250; decide +kernel
  by_cases h249 : op = 249
  · subst h249; decide +kernel
  by_cases h252 : op = 252
  · subst h252; decide +kernel
  by_cases h253 : op = 253
  · subst h253; decide +kernel
  by_cases h254 : op = 254
  · subst h254; decide +kernel
  by_cases h255 : op = 255
  · subst h255; decide +kernel
  by_cases h251 : op = 251
  · subst h251; decide +kernel
  have e : kindOp op = 64 := by
    unfold kindOp
    simp [h54, h55, h56, h248, h59, h245, h247, h246, h250, h249, h252, h253, h254, h255, h251]
  have e2 : endsB op = false := by unfold endsB; simp; omega
  rw [e, e2]
  decide +kernel

end Go.Proofs.YtlcaedibmlidlaaGreat

/-
  The order of a module's instructions, in plain mathematics: what may stand where, what a walk over them passes, the parts, the functions.
-/
namespace Go.Proofs.YtlcaedibmlidlaaGreat
open Go.RowKit
set_option linter.unusedVariables false
set_option linter.unusedSimpArgs false
set_option maxRecDepth 10000

/-- Whether one of the first k has a part above p. -/
def overP (l : List InstT) (p : Int) : Nat → Bool
  | 0 => false
  | k + 1 => overP l p k || decide (p < partI (nthI l k))
/-- How many of the first k say a memory model. -/
def modelsN (l : List InstT) : Nat → Nat
  | 0 => 0
  | k + 1 => modelsN l k + (if partI (nthI l k) = 1 then 1 else 0)
theorem modelsN_le (l : List InstT) : ∀ k, modelsN l k ≤ k
  | 0 => Nat.le_refl _
  | k + 1 => by have := modelsN_le l k; rw [modelsN]; split <;> omega
theorem overP_at {l : List InstT} {p : Int} {k m : Nat} (hk : k < m) (h : p < partI (nthI l k)) : overP l p m = true := by
  induction m with
  | zero => omega
  | succ m ih =>
    rw [overP]
    by_cases e : k = m
    · subst e; simp [h]
    · rw [ih (by omega)]; rfl
/-- What stands ahead, in functions. -/
def aheadO (l : List InstT) (m : Nat) : Int := if 0 < m ∧ partI (nthI l (m - 1)) = 8 then (nthI l (m - 1)).1 else 0
/-- The last label at or ahead of a place. -/
def blockAt (l : List InstT) : Nat → Nat
  | 0 => 0
  | k + 1 => if (nthI l (k + 1)).1 = 248 then k + 1 else blockAt l k
/-- Whether the block at a place is a function's first. -/
def firstB (l : List InstT) (k : Nat) : Bool := decide ((nthI l (blockAt l k - 1)).1 = 54 ∨ (nthI l (blockAt l k - 1)).1 = 55)
/-- What may follow in a function. -/
def mayF (op ah : Int) (fs : Bool) : Bool :=
  if op = 54 then ah == 0 || ah == 56
  else if op = 55 then ah == 54 || ah == 55
  else if op = 248 then ah == 54 || ah == 55 || endsB ah
  else if op = 56 then endsB ah
  else if (ah == 0 || ah == 54 || ah == 55 || ah == 56 || endsB ah) = true then false
  else if op = 245 then (ah == 248 || ah == 245) && !fs
  else if op = 59 then (ah == 248 || ah == 59) && fs
  else if ah = 246 then op == 249 || op == 250
  else if ah = 247 then op == 250 || op == 251
  else true

theorem overP_false {l : List InstT} {p : Int} : ∀ {m : Nat}, overP l p m = false → ∀ i, i < m → partI (nthI l i) ≤ p
  | 0, _, i, hi => by omega
  | m + 1, h, i, hi => by
    rw [overP, Bool.or_eq_false_iff] at h
    by_cases e : i = m
    · subst e; simpa using h.2
    · exact overP_false h.1 i (by omega)
theorem overP_low {l : List InstT} {p : Int} : ∀ {m : Nat}, (∀ i, i < m → partI (nthI l i) ≤ p) → overP l p m = false
  | 0, _ => rfl
  | m + 1, h => by
    rw [overP, overP_low (fun i hi => h i (by omega)), Bool.false_or]
    have := h m (by omega)
    simpa using this
theorem modelsN_none {l : List InstT} : ∀ {k : Nat}, (∀ i, i < k → partI (nthI l i) ≠ 1) → modelsN l k = 0
  | 0, _ => rfl
  | k + 1, h => by rw [modelsN, modelsN_none (fun i hi => h i (by omega)), if_neg (h k (by omega))]
theorem modelsN_mono {l : List InstT} {i k : Nat} (h : i ≤ k) : modelsN l i ≤ modelsN l k := by
  induction k with
  | zero => rw [show i = 0 by omega]; exact Nat.le_refl _
  | succ k ih =>
    by_cases e : i = k + 1
    · rw [e]; exact Nat.le_refl _
    · have := ih (by omega); rw [modelsN]; omega

/-- What may stand at a place. -/
def mayL (l : List InstT) (m : Nat) : Bool :=
  (!overP l (partI (nthI l m)) m && (if partI (nthI l m) = 1 then decide (modelsN l m = 0) else !(decide (1 < partI (nthI l m)) && decide (modelsN l m = 0)))) && (decide (partI (nthI l m) < 8) || mayF (nthI l m).1 (aheadO l m) (firstB l (m - 1)))
/-- All ahead of a place stand where they may. -/
def okTo (l : List InstT) (k : Nat) : Prop := ∀ i, i < k → mayL l i = true
theorem okTo_zero (l : List InstT) : okTo l 0 := fun i hi => by omega
theorem okTo.snoc {l : List InstT} {k : Nat} (h : okTo l k) (hk : mayL l k = true) : okTo l (k + 1) := fun i hi => by
  by_cases e : i = k
  · rw [e]; exact hk
  · exact h i (by omega)
theorem mayL_over {l : List InstT} {k i : Nat} (hi : i < k) (h : partI (nthI l k) < partI (nthI l i)) : mayL l k = false := by
  unfold mayL; rw [overP_at hi h]; rfl
theorem mayL_low {l : List InstT} {k : Nat} {p : Int} (hp : partI (nthI l k) = p) (h8 : p < 8) (ho : ∀ i, i < k → partI (nthI l i) ≤ p) (h1 : p = 1 → modelsN l k = 0) (h2 : 1 < p → modelsN l k ≠ 0) : mayL l k = true := by
  unfold mayL
  rw [hp, overP_low ho]
  have h8' : decide (p < 8) = true := by simpa using h8
  rw [h8']
  by_cases e : p = 1
  · simp [e, h1 e]
  · by_cases e2 : 1 < p
    · simp [e, e2, h2 e2]
    · simp [e, e2]
theorem mayL_noModel {l : List InstT} {k : Nat} (h : 1 < partI (nthI l k)) (h0 : modelsN l k = 0) : mayL l k = false := by
  unfold mayL
  rw [if_neg (by omega)]
  simp [h, h0]
theorem mayL_twoModels {l : List InstT} {k : Nat} (h : partI (nthI l k) = 1) (h0 : modelsN l k ≠ 0) : mayL l k = false := by
  unfold mayL
  rw [if_pos h]
  simp [h0]
theorem mayL_eight {l : List InstT} {k : Nat} (h : partI (nthI l k) = 8) (ho : ∀ i, i < k → partI (nthI l i) ≤ 8) (h0 : modelsN l k ≠ 0) : mayL l k = mayF (nthI l k).1 (aheadO l k) (firstB l (k - 1)) := by
  unfold mayL
  rw [h, overP_low ho]
  simp [h0]

/-- A part is none above the functions'. -/
theorem partI_eight (x : InstT) : 0 ≤ partI x ∧ partI x ≤ 8 := by
  have h : refT.all (fun r => decide (0 ≤ r.2.2.2.2.2.2.2) && decide (r.2.2.2.2.2.2.2 ≤ 8)) = true := by decide +kernel
  unfold partI
  split
  · omega
  · unfold partO
    split
    · next h1 =>
      have h2 := List.all_eq_true.1 h _ (lookF_true h1)
      simpa using h2
    · omega

theorem partAt_lt {l : List InstT} {k : Nat} (h : k < l.length) : partAt l k = partI (nthI l k) := by unfold partAt; rw [if_pos h]
theorem partAt_end {l : List InstT} {k : Nat} (h : l.length ≤ k) : partAt l k = 9 := by unfold partAt; rw [if_neg (by omega)]
theorem partAt_nine {l : List InstT} {k : Nat} (h : partAt l k = 9) : l.length ≤ k := by
  unfold partAt at h
  split at h
  · have := partI_eight (nthI l k); omega
  · omega
theorem partAt_small (l : List InstT) (k : Nat) : 0 ≤ partAt l k ∧ partAt l k ≤ 9 := by
  unfold partAt
  split
  · have := partI_eight (nthI l k); omega
  · omega

/-- How many of the first k have a part below p. -/
def cntP (l : List InstT) (p : Nat) : Nat → Nat
  | 0 => 0
  | k + 1 => cntP l p k + (if partI (nthI l k) < p then 1 else 0)
theorem cntP_all {l : List InstT} {p : Nat} : ∀ {k : Nat}, (∀ i, i < k → partI (nthI l i) < p) → cntP l p k = k
  | 0, _ => rfl
  | k + 1, h => by rw [cntP, cntP_all (fun i hi => h i (by omega)), if_pos (h k (by omega))]
theorem cntP_more {l : List InstT} {p k : Nat} (h : (p : Int) ≤ partI (nthI l k)) : cntP l p (k + 1) = cntP l p k := by rw [cntP, if_neg (by omega)]; rfl
theorem cntP_le (l : List InstT) (p : Nat) : ∀ k, cntP l p k ≤ k
  | 0 => Nat.le_refl _
  | k + 1 => by have := cntP_le l p k; rw [cntP]; split <;> omega

/-- The walk in front: at part j, at place k. -/
structure FrM (l : List InstT) (ps : Nat → Int) (j k : Nat) : Prop where
  le : k ≤ l.length
  ok : okTo l k
  parts : ∀ i, i < k → partI (nthI l i) ≤ j
  one : j = 1 → ∀ i, i < k → partI (nthI l i) < 1
  models : 2 ≤ j → modelsN l k ≠ 0
  stuck : partAt l k < j → k < l.length ∧ mayL l k = false
  spans : ∀ i, i ≤ 2 * j → ps i = cntP l ((i + 1) / 2) k
/-- At the opening of a part. -/
structure FrO (l : List InstT) (ps : Nat → Int) (j k : Nat) : Prop where
  le : k ≤ l.length
  ok : okTo l k
  parts : ∀ i, i < k → partI (nthI l i) < j
  models : 2 ≤ j → modelsN l k ≠ 0
  stuck : partAt l k < j → k < l.length ∧ mayL l k = false
  spans : ∀ i, i < 2 * j → ps i = cntP l ((i + 1) / 2) k
theorem FrO.start (l : List InstT) (ps : Nat → Int) : FrO l ps 0 0 := ⟨Nat.zero_le _, okTo_zero l, fun i hi => by omega, fun h => by omega, fun h => by have := partAt_small l 0; omega, fun i hi => by omega⟩
theorem FrO.more {l : List InstT} {ps : Nat → Int} {j k : Nat} (h : FrO l ps j k) : FrM l (fun i => if i = 2 * j then (k : Int) else ps i) j k := by
  refine ⟨h.le, h.ok, fun i hi => by have := h.parts i hi; omega, fun e i hi => by have := h.parts i hi; omega, h.models, h.stuck, fun i hi => ?_⟩
  by_cases e : i = 2 * j
  · simp only [e, if_true]
    rw [show (2 * j + 1) / 2 = j by omega, cntP_all h.parts]
  · simp only [e, if_false]
    exact h.spans i (by omega)
/-- A step by an instruction of the part. -/
theorem FrM.may {l : List InstT} {ps : Nat → Int} {j k : Nat} (h : FrM l ps j k) (hj : j < 8) (hp : partAt l k = j) : k < l.length ∧ mayL l k = true := by
  have hk : k < l.length := by
    rcases Nat.lt_or_ge k l.length with h1 | h1
    · exact h1
    · rw [partAt_end h1] at hp; omega
  rw [partAt_lt hk] at hp
  refine ⟨hk, mayL_low hp (by omega) h.parts (fun e => modelsN_none fun i hi => ?_) (fun e => h.models (by omega))⟩
  have := h.one (by omega) i hi; omega
theorem FrM.step {l : List InstT} {ps : Nat → Int} {j k : Nat} (h : FrM l ps j k) (hj : j < 8) (h1 : j ≠ 1) (hp : partAt l k = j) : FrM l ps j (k + 1) := by
  obtain ⟨hk, hm⟩ := h.may hj hp
  have hpi : partI (nthI l k) = j := by rw [← hp, partAt_lt hk]
  refine ⟨hk, h.ok.snoc hm, fun i hi => ?_, fun e => absurd e h1, fun e => ?_, fun e => ?_, fun i hi => ?_⟩
  · by_cases e : i = k
    · rw [e, hpi]; exact Int.le_refl _
    · exact h.parts i (by omega)
  · have := h.models e; have := modelsN_mono (l := l) (show k ≤ k + 1 by omega); omega
  · rcases Nat.lt_or_ge (k + 1) l.length with hl | hl
    · rw [partAt_lt hl] at e
      exact ⟨hl, mayL_over (i := k) (by omega) (by omega)⟩
    · rw [partAt_end hl] at e; omega
  · rw [cntP_more (by rw [hpi]; omega)]; exact h.spans i hi
theorem FrM.stepModel {l : List InstT} {ps : Nat → Int} {k : Nat} (h : FrM l ps 1 k) (hp : partAt l k = 1) : FrO l (fun i => if i = 3 then ((k + 1 : Nat) : Int) else ps i) 2 (k + 1) := by
  obtain ⟨hk, hm⟩ := h.may (by omega) hp
  have hpi : partI (nthI l k) = 1 := by rw [← partAt_lt hk]; exact hp
  have hmo : modelsN l (k + 1) ≠ 0 := by rw [modelsN, if_pos hpi]; omega
  have hparts : ∀ i, i < k + 1 → partI (nthI l i) < ((2 : Nat) : Int) := fun i hi => by
    by_cases e : i = k
    · rw [e, hpi]; omega
    · have := h.parts i (by omega); omega
  refine ⟨hk, h.ok.snoc hm, hparts, fun _ => hmo, fun e => ?_, fun i hi => ?_⟩
  · rcases Nat.lt_or_ge (k + 1) l.length with hl | hl
    · rw [partAt_lt hl] at e
      refine ⟨hl, ?_⟩
      by_cases e1 : partI (nthI l (k + 1)) = 1
      · exact mayL_twoModels e1 hmo
      · exact mayL_over (i := k) (by omega) (by omega)
    · rw [partAt_end hl] at e; omega
  · by_cases e : i = 3
    · simp only [e, if_true]; rw [cntP_all (by simpa using hparts)]
    · simp only [e, if_false]
      rw [cntP_more (by rw [hpi]; omega)]; exact h.spans i (by omega)
theorem FrM.close {l : List InstT} {ps : Nat → Int} {j k : Nat} (h : FrM l ps j k) (h1 : j ≠ 1) (hp : partAt l k ≠ j) : FrO l (fun i => if i = 2 * j + 1 then (k : Int) else ps i) (j + 1) k := by
  have hparts : ∀ i, i < k → partI (nthI l i) < ((j + 1 : Nat) : Int) := fun i hi => by have := h.parts i hi; omega
  refine ⟨h.le, h.ok, hparts, fun e => h.models (by omega), fun e => h.stuck (by omega), fun i hi => ?_⟩
  by_cases e : i = 2 * j + 1
  · simp only [e, if_true]; rw [show (2 * j + 1 + 1) / 2 = j + 1 by omega, cntP_all hparts]
  · simp only [e, if_false]; exact h.spans i (by omega)
/-- What is wrong where the walk stops: at a place that no instruction may have, or at an open end. -/
def wrongAt (l : List InstT) (k : Nat) : Prop := okTo l k ∧ (k < l.length ∧ mayL l k = false ∨ k = l.length ∧ (modelsN l k = 0 ∨ aheadO l k ≠ 0 ∧ aheadO l k ≠ 56))
theorem FrM.noModel {l : List InstT} {ps : Nat → Int} {k : Nat} (h : FrM l ps 1 k) (hp : partAt l k ≠ 1) : wrongAt l k := by
  have hm : modelsN l k = 0 := modelsN_none fun i hi => by have := h.one rfl i hi; omega
  refine ⟨h.ok, ?_⟩
  rcases Nat.lt_or_ge k l.length with hl | hl
  · refine .inl ⟨hl, ?_⟩
    by_cases e : partAt l k < (1 : Nat)
    · exact (h.stuck e).2
    · rw [partAt_lt hl] at hp e
      exact mayL_noModel (by omega) hm
  · exact .inr ⟨by have := h.le; omega, .inl hm⟩

/-- Functions: id, place, parameters, blocks (label, from, to), end. -/
abbrev FuncT := Int × Int × List Int × List (Int × Int × Int) × Int
/-- The last one turned. -/
def onLast (fs : List FuncT) (g : FuncT → FuncT) : List FuncT := match fs.getLast? with
  | none => []
  | some f => fs.dropLast ++ [g f]
theorem onLast_snoc (fs : List FuncT) (f : FuncT) (g : FuncT → FuncT) : onLast (fs ++ [f]) g = fs ++ [g f] := by simp [onLast]
def withParam (k : Int) (f : FuncT) : FuncT := (f.1, f.2.1, f.2.2.1 ++ [k], f.2.2.2.1, f.2.2.2.2)
def withBlock (lab k : Int) (f : FuncT) : FuncT := (f.1, f.2.1, f.2.2.1, f.2.2.2.1 ++ [(lab, k, 0)], f.2.2.2.2)
def withEnd (k : Int) (f : FuncT) : FuncT := (f.1, f.2.1, f.2.2.1, f.2.2.2.1, k)
def endLast (bs : List (Int × Int × Int)) (k : Int) : List (Int × Int × Int) := match bs.getLast? with
  | none => []
  | some b => bs.dropLast ++ [(b.1, b.2.1, k)]
theorem endLast_snoc (bs : List (Int × Int × Int)) (b : Int × Int × Int) (k : Int) : endLast (bs ++ [b]) k = bs ++ [(b.1, b.2.1, k)] := by simp [endLast]
def withTo (k : Int) (f : FuncT) : FuncT := (f.1, f.2.1, f.2.2.1, endLast f.2.2.2.1 k, f.2.2.2.2)
/-- What an instruction adds to the functions. -/
def stepC (fs : List FuncT) (x : InstT) (k : Nat) : List FuncT :=
  if x.1 = 54 then fs ++ [(x.2.2.1, (k : Int), [], [], 0)]
  else if x.1 = 55 then onLast fs (withParam k)
  else if x.1 = 56 then onLast fs (withEnd k)
  else if x.1 = 248 then onLast fs (withBlock x.2.2.1 k)
  else if endsB x.1 then onLast fs (withTo ((k + 1 : Nat) : Int))
  else fs
/-- The functions among the first k instructions. -/
def cutTo (l : List InstT) : Nat → List FuncT
  | 0 => []
  | k + 1 => stepC (cutTo l k) (nthI l k) k

/-- What stands in functions alone has their part. -/
theorem part_of_function {x : InstT} (h : x.1 = 54 ∨ x.1 = 55 ∨ x.1 = 56 ∨ x.1 = 248 ∨ endsB x.1 = true) : partI x = 8 := by
  have h59 : x.1 ≠ 59 := by
    rcases h with h | h | h | h | h
    · omega
    · omega
    · omega
    · omega
    · unfold endsB at h; simp at h; omega
  unfold partI
  rw [if_neg (fun e => h59 e.1)]
  have key : ∀ op : Int, op = 54 ∨ op = 55 ∨ op = 56 ∨ op = 248 ∨ op = 249 ∨ op = 250 ∨ op = 251 ∨ op = 252 ∨ op = 253 ∨ op = 254 ∨ op = 255 → partO op = 8 := by
    intro op ho
    rcases ho with e | e | e | e | e | e | e | e | e | e | e <;> subst e <;> decide +kernel
  refine key _ ?_
  rcases h with h | h | h | h | h
  · omega
  · omega
  · omega
  · omega
  · unfold endsB at h; simp at h; omega
theorem partO_zero : partO 0 ≠ 8 := by decide +kernel
theorem stepC_other {fs : List FuncT} {x : InstT} {k : Nat} (h1 : x.1 ≠ 54) (h2 : x.1 ≠ 55) (h3 : x.1 ≠ 56) (h4 : x.1 ≠ 248) (h5 : endsB x.1 = false) : stepC fs x k = fs := by
  unfold stepC; rw [if_neg h1, if_neg h2, if_neg h3, if_neg h4, h5]; rfl
theorem cutTo_front {l : List InstT} : ∀ {k : Nat}, (∀ i, i < k → partI (nthI l i) < 8) → cutTo l k = []
  | 0, _ => rfl
  | k + 1, h => by
    have hp := h k (by omega)
    have no : ∀ {q : Prop}, (q → partI (nthI l k) = 8) → ¬ q := fun hq h1 => by have := hq h1; omega
    rw [cutTo, cutTo_front (fun i hi => h i (by omega))]
    exact stepC_other (no fun e => part_of_function (.inl e)) (no fun e => part_of_function (.inr (.inl e))) (no fun e => part_of_function (.inr (.inr (.inl e)))) (no fun e => part_of_function (.inr (.inr (.inr (.inl e))))) (by
      cases he : endsB (nthI l k).1 with
      | false => rfl
      | true => have := part_of_function (x := nthI l k) (.inr (.inr (.inr (.inr he)))); omega)

/-- The walk among the functions, at place k. -/
structure Fc (l : List InstT) (k : Nat) : Prop where
  le : k ≤ l.length
  ok : okTo l k
  parts : ∀ i, i < k → partI (nthI l i) ≤ 8
  models : modelsN l k ≠ 0
  stuck : partAt l k < 8 → k < l.length ∧ mayL l k = false
/-- What an instruction in functions is: its part, its kind. -/
theorem kind_part {l : List InstT} {k : Nat} (h : kindAt l k ≠ 0) : k < l.length ∧ partI (nthI l k) = 8 ∧ kindAt l k = kindOp (nthI l k).1 := by
  unfold kindAt kindX at *
  split at h
  · next hk =>
    split at h
    · next h8 => rw [if_pos hk, if_pos h8]; exact ⟨hk, h8, rfl⟩
    · exact absurd rfl h
  · exact absurd rfl h
theorem kindAt_eight {l : List InstT} {k : Nat} (hk : k < l.length) (h : partI (nthI l k) = 8) : kindAt l k = kindOp (nthI l k).1 := by
  unfold kindAt kindX; rw [if_pos hk, if_pos h]
theorem Fc.next {l : List InstT} {k : Nat} (h : Fc l k) (hk : k < l.length) (h8 : partI (nthI l k) = 8) (hm : mayF (nthI l k).1 (aheadO l k) (firstB l (k - 1)) = true) : Fc l (k + 1) ∧ aheadO l (k + 1) = (nthI l k).1 := by
  refine ⟨⟨hk, h.ok.snoc ((mayL_eight h8 h.parts h.models).trans hm), fun i hi => ?_, ?_, fun e => ?_⟩, ?_⟩
  · by_cases e : i = k
    · rw [e, h8]; exact Int.le_refl _
    · exact h.parts i (by omega)
  · have := h.models; have := modelsN_mono (l := l) (show k ≤ k + 1 by omega); omega
  · rcases Nat.lt_or_ge (k + 1) l.length with hl | hl
    · rw [partAt_lt hl] at e
      exact ⟨hl, mayL_over (i := k) (by omega) (by omega)⟩
    · rw [partAt_end hl] at e; omega
  · unfold aheadO; rw [if_pos ⟨by omega, h8⟩, Nat.add_sub_cancel]
theorem Fc.fail {l : List InstT} {k : Nat} (h : Fc l k) (hm : k < l.length → partI (nthI l k) = 8 → mayF (nthI l k).1 (aheadO l k) (firstB l (k - 1)) = false) (ha : aheadO l k ≠ 0 ∧ aheadO l k ≠ 56 ∨ partAt l k ≠ 9) : wrongAt l k := by
  refine ⟨h.ok, ?_⟩
  rcases Nat.lt_or_ge k l.length with hl | hl
  · refine .inl ⟨hl, ?_⟩
    by_cases e : partAt l k < 8
    · exact (h.stuck e).2
    · rw [partAt_lt hl] at e
      have := partI_eight (nthI l k)
      have h8 : partI (nthI l k) = 8 := by omega
      rw [mayL_eight h8 h.parts h.models]
      exact hm hl h8
  · refine .inr ⟨by have := h.le; omega, .inr ?_⟩
    rcases ha with ha | ha
    · exact ha
    · exact absurd (partAt_end hl) ha
theorem firstB_label {l : List InstT} {k : Nat} (hk : 1 ≤ k) (h : (nthI l k).1 = 248) : firstB l k = decide ((nthI l (k - 1)).1 = 54 ∨ (nthI l (k - 1)).1 = 55) ∧ blockAt l k = k := by
  obtain ⟨j, rfl⟩ : ∃ j, k = j + 1 := ⟨k - 1, by omega⟩
  have : blockAt l (j + 1) = j + 1 := by rw [blockAt, if_pos h]
  unfold firstB
  rw [this]
  exact ⟨rfl, rfl⟩
theorem firstB_other {l : List InstT} {k : Nat} (hk : 1 ≤ k) (h : (nthI l k).1 ≠ 248) : firstB l k = firstB l (k - 1) ∧ blockAt l k = blockAt l (k - 1) := by
  obtain ⟨j, rfl⟩ : ∃ j, k = j + 1 := ⟨k - 1, by omega⟩
  have : blockAt l (j + 1) = blockAt l j := by rw [blockAt, if_neg h]
  unfold firstB
  rw [this]
  exact ⟨rfl, rfl⟩
end Go.Proofs.YtlcaedibmlidlaaGreat
