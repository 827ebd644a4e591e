/-
  Plain facts on strings as lists of numbers from 0 to 255: a text's words.
-/
import Derived.Test.YteckmcgihbicfabMath
import Derived.Lib.Bytealg
import Derived.Lib.IndexLaws
import Derived.Laws.BytesArg
namespace Go.Proofs.Yteckmcgihbicfab
open Go.RowKit

theorem size_list (s : ByteArray) : s.data.toList.length = s.size := by rw [Array.length_toList]; rfl

/-- A string's bytes, as numbers. -/
def strI (s : ByteArray) : List Int := s.data.toList.map fun b => (b.toNat : Int)

theorem strI_len (s : ByteArray) : (strI s).length = s.size := by rw [strI, List.length_map, size_list]
theorem strI_within (s : ByteArray) : Within 256 (strI s) := by
  intro z hz
  simp only [strI, List.mem_map] at hz
  obtain ⟨b, _, rfl⟩ := hz
  have := b.toNat_lt
  omega
theorem nth_strI (s : ByteArray) (k : Nat) (h : k < s.size) : nth (strI s) k = (s[k].toNat : Int) := by
  have h' : k < s.data.toList.length := by rw [size_list]; exact h
  have e : s[k] = s.data.toList[k] := rfl
  rw [e]
  have h2 : (strI s)[k]? = some ((s.data.toList[k].toNat : Int)) := by rw [strI, List.getElem?_map, List.getElem?_eq_getElem h']; rfl
  rw [nth, List.getD, h2]; rfl
/-- The string is what its numbers make. -/
theorem str_of_strI (s : ByteArray) : strOfNums (strI s) = s := by
  have e : (strI s).map (fun n => UInt8.ofNat n.toNat) = s.data.toList := by
    simp [strI, Function.comp_def]
  unfold strOfNums
  rw [e]

/-- No byte 0. -/
def NoNul (s : ByteArray) : Prop := ∀ k, k < s.size → nth (strI s) k ≠ 0

theorem index_none (s : ByteArray) (h : NoNul s) : Lib.indexByte s.data.toList (0 : Int).toNat.toUInt8 = -1 := by
  have hge := Lib.indexByte_ge s.data.toList (0 : Int).toNat.toUInt8
  apply Classical.byContradiction
  intro hne
  obtain ⟨o, ho⟩ : ∃ o : Nat, Lib.indexByte s.data.toList (0 : Int).toNat.toUInt8 = o := ⟨(Lib.indexByte s.data.toList (0 : Int).toNat.toUInt8).toNat, by omega⟩
  have := (Lib.indexByte_some ho).1
  have hlt : o < s.data.toList.length := by
    rcases Nat.lt_or_ge o s.data.toList.length with h1 | h1
    · exact h1
    · rw [List.getElem?_eq_none h1] at this; simp at this
  have hs : o < s.size := by rw [← size_list]; exact hlt
  apply h o hs
  rw [nth_strI s o hs]
  have e : s[o] = s.data.toList[o] := rfl
  rw [List.getElem?_eq_getElem hlt] at this
  rw [e, Option.some.inj this]
  rfl
theorem index_some (s : ByteArray) (k : Nat) (hk : k < s.size) (h : nth (strI s) k = 0) : 0 ≤ Lib.indexByte s.data.toList (0 : Int).toNat.toUInt8 := by
  have hge := Lib.indexByte_ge s.data.toList (0 : Int).toNat.toUInt8
  apply Classical.byContradiction
  intro hne
  have hm : Lib.indexByte s.data.toList (0 : Int).toNat.toUInt8 = -1 := by omega
  have := Lib.indexByte_none hm k
  have hlt : k < s.data.toList.length := by rw [size_list]; exact hk
  apply this
  rw [List.getElem?_eq_getElem hlt]
  rw [nth_strI s k hk] at h
  have e : s[k] = s.data.toList[k] := rfl
  rw [e] at h
  have : s.data.toList[k].toNat = 0 := by omega
  exact congrArg some (UInt8.toNat_inj.1 this)

/-- A text's bytes, a byte 0, and as many more as make whole words. -/
def padI (s : ByteArray) : List Int := filled (strI s) s.size (4 * (s.size / 4 + 1))
/-- A text's words. -/
def textW (s : ByteArray) : List Int := splitL (padI s)

theorem padI_len (s : ByteArray) : (padI s).length = 4 * (s.size / 4 + 1) := filled_len _ _ _ (by omega) (by rw [strI_len]; omega)
theorem textW_len (s : ByteArray) : (textW s).length = s.size / 4 + 1 := by rw [textW, splitL_len, padI_len]; omega
theorem padI_lo (s : ByteArray) (k : Nat) (h : k < s.size) : nth (padI s) k = nth (strI s) k := by
  have e : (strI s).take s.size = strI s := List.take_of_length_le (by rw [strI_len]; omega)
  rw [padI, filled, e, getD_left _ _ _ (by rw [strI_len]; exact h)]
theorem padI_hi (s : ByteArray) (k : Nat) (h : s.size ≤ k) : nth (padI s) k = 0 := by
  have e : (strI s).take s.size = strI s := List.take_of_length_le (by rw [strI_len]; omega)
  rw [padI, filled, e, getD_right _ _ _ (by rw [strI_len]; exact h)]
  simp only [nth, List.getD, List.getElem?_replicate]
  split <;> rfl
theorem padI_within (s : ByteArray) : Within 256 (padI s) := by
  intro z hz
  simp only [padI, filled, List.mem_append, List.mem_replicate] at hz
  rcases hz with hz | ⟨_, rfl⟩
  · exact strI_within s z (List.mem_of_mem_take hz)
  · omega
/-- What lies behind the text's bytes is 0: the row is whole when they are in it. -/
theorem partL_padI (s : ByteArray) : partL (padI s) s.size (s.size / 4 + 1) = textW s := by
  have h := partL_whole (padI s) (by rw [padI_len]; omega)
  rw [padI_len, show 4 * (s.size / 4 + 1) / 4 = s.size / 4 + 1 by omega] at h
  rw [textW, ← h]
  unfold partL
  apply List.map_congr_left
  intro k hk
  have hk' : k < s.size / 4 + 1 := List.mem_range.1 hk
  unfold partW
  rw [if_pos (show 4 * k < 4 * (s.size / 4 + 1) by omega), if_pos (show 4 * k + 1 < 4 * (s.size / 4 + 1) by omega), if_pos (show 4 * k + 2 < 4 * (s.size / 4 + 1) by omega), if_pos (show 4 * k + 3 < 4 * (s.size / 4 + 1) by omega)]
  have f : ∀ i, (if i < s.size then nth (padI s) i else 0) = nth (padI s) i := fun i => by
    split
    · rfl
    · rw [padI_hi s i (by omega)]
  have f' : ∀ i (c : Int), (if i < s.size then nth (padI s) i * c else 0) = nth (padI s) i * c := fun i c => by
    split
    · rfl
    · rw [padI_hi s i (by omega)]; omega
  rw [f, f', f', f']

end Go.Proofs.Yteckmcgihbicfab
