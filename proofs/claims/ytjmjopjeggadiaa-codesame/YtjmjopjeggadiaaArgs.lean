/-
  Arguments, instructions and modules in memory: what can be read of them.
-/
import Derived.WideShapes
import Derived.Test.YtjmjopjeggadiaaMath3
namespace Go.Proofs.Ytjmjopjeggadiaa
open Go.RowKit

/-- An argument: its kind, its number, its text. -/
abbrev ArgT := Int × Int × ByteArray
def argV (x : ArgT) : Value := .agg #[.int .u8 x.1, .int .u32 x.2.1, .string x.2.2]
def noArg : ArgT := (0, 0, ⟨#[]⟩)
def argC (x : ArgT) : List Value := [.int .u8 x.1, .int .u32 x.2.1, .string x.2.2]
def nthA (l : List ArgT) (j : Nat) : ArgT := l.getD j noArg

theorem str_inj {a b : ByteArray} (h : a.toList = b.toList) : a = b := by
  rw [ByteArray.toList_eq, ByteArray.toList_eq] at h
  exact Go.WideShapes.bytes_inj h

/-- What can be read of a slice of arguments. -/
def ArgsV (w : World) (a : Option Addr) (l : List ArgT) : Prop :=
  ∀ j, j < l.length → ∃ b off, a = some ⟨b, off, none⟩ ∧ b < w.heap.size ∧ w.cell? ⟨b, off + j * 3, none⟩ = some (.int .u8 (nthA l j).1) ∧ w.cell? ⟨b, off + j * 3 + 1, none⟩ = some (.int .u32 (nthA l j).2.1) ∧ w.cell? ⟨b, off + j * 3 + 2, none⟩ = some (.string (nthA l j).2.2)

def ArgOk (x : ArgT) : Prop := 0 ≤ x.1 ∧ x.1 < 256 ∧ 0 ≤ x.2.1 ∧ x.2.1 < 4294967296 ∧ x.2.2.size ≤ 140737488351232
/-- Each kind, number and length lies within its bounds. -/
def ArgsOk (l : List ArgT) : Prop := ∀ j, j < l.length → ArgOk (nthA l j)

theorem argsV_nil {w : World} {a : Option Addr} : ArgsV w a [] := fun j hj => by simp at hj
theorem argsOk_nil : ArgsOk [] := fun j hj => by simp at hj

theorem ArgsV.below {w w' : World} {a : Option Addr} {l : List ArgT} (h : ArgsV w a l) (hb : Below w.heap.size w w') : ArgsV w' a l := by
  intro j hj
  obtain ⟨b, off, e, hlt, h1, h2, h3⟩ := h j hj
  exact ⟨b, off, e, Nat.lt_of_lt_of_le hlt hb.size, (hb.cell (p := ⟨b, off + j * 3, none⟩) hlt).trans h1, (hb.cell (p := ⟨b, off + j * 3 + 1, none⟩) hlt).trans h2, (hb.cell (p := ⟨b, off + j * 3 + 2, none⟩) hlt).trans h3⟩
theorem ArgsV.drew {w : World} {a : Option Addr} {l : List ArgT} (h : ArgsV w a l) (q : Nat) : ArgsV (w.drewN q) a l := h.below (bel_drewN (Below.refl _ _) q)
theorem ArgsV.setCell {w : World} {a : Option Addr} {l : List ArgT} (h : ArgsV w a l) {g i : Nat} (hg : ∀ b off, a = some ⟨b, off, none⟩ → b ≠ g) (v : Value) : ArgsV (w.setCell ⟨g, i, none⟩ v) a l := by
  intro j hj
  obtain ⟨b, off, e, hlt, h1, h2, h3⟩ := h j hj
  have hne := hg b off e
  have hx : (w.setCell ⟨g, i, none⟩ v).heap[b]? = w.heap[b]? := Below.heap_setCell _ _ _ _ (by simpa using hne)
  refine ⟨b, off, e, by simpa using hlt, ?_, ?_, ?_⟩
  · simp only [World.cell?, hx] at h1 ⊢; exact h1
  · simp only [World.cell?, hx] at h2 ⊢; exact h2
  · simp only [World.cell?, hx] at h3 ⊢; exact h3

/-- An instruction: its operation, its type, its result, its arguments. -/
abbrev InstT := Int × Int × Int × List ArgT
def instV (x : InstT) (a : Option Addr) (n c : Nat) : Value := .agg #[.int .u16 x.1, .int .u32 x.2.1, .int .u32 x.2.2.1, .slice a n c]
def noInst : InstT := (0, 0, 0, [])
def nthI (l : List InstT) (j : Nat) : InstT := l.getD j noInst
def InstOk (x : InstT) : Prop := 0 ≤ x.1 ∧ x.1 < 65536 ∧ 0 ≤ x.2.1 ∧ x.2.1 < 4294967296 ∧ 0 ≤ x.2.2.1 ∧ x.2.2.1 < 4294967296 ∧ ArgsOk x.2.2.2 ∧ 24 * x.2.2.2.length ≤ 140737488351232
def InstsOk (l : List InstT) : Prop := ∀ j, j < l.length → InstOk (nthI l j)

/-- What can be read of a slice of instructions with their arguments. -/
def InstsV (w : World) (a : Option Addr) (l : List InstT) : Prop :=
  ∀ j, j < l.length → ∃ b off aj cj nj, a = some ⟨b, off, none⟩ ∧ b < w.heap.size ∧ w.cell? ⟨b, off + j * 4, none⟩ = some (.int .u16 (nthI l j).1) ∧ w.cell? ⟨b, off + j * 4 + 1, none⟩ = some (.int .u32 (nthI l j).2.1) ∧ w.cell? ⟨b, off + j * 4 + 2, none⟩ = some (.int .u32 (nthI l j).2.2.1) ∧
    w.cell? ⟨b, off + j * 4 + 3, none⟩ = some (.slice aj nj cj) ∧ (nthI l j).2.2.2.length = nj ∧ ArgsV w aj (nthI l j).2.2.2 ∧ nj ≤ cj

theorem instsV_nil {w : World} {a : Option Addr} : InstsV w a [] := fun j hj => by simp at hj
theorem instsOk_nil : InstsOk [] := fun j hj => by simp at hj
theorem InstsV.below {w w' : World} {a : Option Addr} {l : List InstT} (h : InstsV w a l) (hb : Below w.heap.size w w') : InstsV w' a l := by
  intro j hj
  obtain ⟨b, off, aj, cj, nj, e, hlt, h1, h2, h3, h4, h5, h6, h7⟩ := h j hj
  exact ⟨b, off, aj, cj, nj, e, Nat.lt_of_lt_of_le hlt hb.size, (hb.cell (p := ⟨b, off + j * 4, none⟩) hlt).trans h1, (hb.cell (p := ⟨b, off + j * 4 + 1, none⟩) hlt).trans h2, (hb.cell (p := ⟨b, off + j * 4 + 2, none⟩) hlt).trans h3, (hb.cell (p := ⟨b, off + j * 4 + 3, none⟩) hlt).trans h4, h5, h6.below hb, h7⟩
theorem InstsV.drew {w : World} {a : Option Addr} {l : List InstT} (h : InstsV w a l) (q : Nat) : InstsV (w.drewN q) a l := h.below (bel_drewN (Below.refl _ _) q)

theorem nthA_lt (l : List ArgT) (j : Nat) (h : j < l.length) : nthA l j = l[j] := by simp [nthA, List.getD, h]
theorem nthI_lt (l : List InstT) (j : Nat) (h : j < l.length) : nthI l j = l[j] := by simp [nthI, List.getD, h]
theorem nthA_lo (l : List ArgT) (x : ArgT) (j : Nat) (h : j < l.length) : nthA (l ++ [x]) j = nthA l j := by simp [nthA, List.getD, List.getElem?_append_left h]
theorem nthA_hi (l : List ArgT) (x : ArgT) : nthA (l ++ [x]) l.length = x := by simp [nthA, List.getD]
theorem nthI_lo (l : List InstT) (x : InstT) (j : Nat) (h : j < l.length) : nthI (l ++ [x]) j = nthI l j := by simp [nthI, List.getD, List.getElem?_append_left h]
theorem nthI_hi (l : List InstT) (x : InstT) : nthI (l ++ [x]) l.length = x := by simp [nthI, List.getD]
theorem argsOk_push {l : List ArgT} {x : ArgT} (h : ArgsOk l) (hx : ArgOk x) : ArgsOk (l ++ [x]) := by
  intro j hj
  rw [List.length_append, List.length_singleton] at hj
  by_cases hjl : j < l.length
  · rw [nthA_lo _ _ _ hjl]; exact h j hjl
  · obtain rfl : j = l.length := by omega
    rw [nthA_hi]; exact hx

/-- Two lists are the same just if they are as long and the same at each place. -/
theorem argsEq_iff (l m : List ArgT) : l = m ↔ l.length = m.length ∧ ∀ j, j < l.length → nthA l j = nthA m j := by
  constructor
  · rintro rfl; exact ⟨rfl, fun _ _ => rfl⟩
  · rintro ⟨h1, h2⟩
    refine List.ext_getElem h1 fun j hj hj' => ?_
    have := h2 j hj
    rw [nthA_lt _ _ hj, nthA_lt _ _ hj'] at this
    exact this
theorem instsEq_iff (l m : List InstT) : l = m ↔ l.length = m.length ∧ ∀ j, j < l.length → nthI l j = nthI m j := by
  constructor
  · rintro rfl; exact ⟨rfl, fun _ _ => rfl⟩
  · rintro ⟨h1, h2⟩
    refine List.ext_getElem h1 fun j hj hj' => ?_
    have := h2 j hj
    rw [nthI_lt _ _ hj, nthI_lt _ _ hj'] at this
    exact this

end Go.Proofs.Ytjmjopjeggadiaa
