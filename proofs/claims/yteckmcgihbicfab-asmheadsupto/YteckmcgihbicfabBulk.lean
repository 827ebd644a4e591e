/-
  What the bound of an upto statement gives of a slice that is the first argument.
-/
import Derived.Test.YteckmcgihbicfabRows
namespace Go.Proofs.Yteckmcgihbicfab

theorem bulk_one {H : Type} : ∀ d : DataW H, 0 < Rows.uptoBulk d
  | .lit l => by cases l <;> simp [Rows.uptoBulk]
  | .nil => by simp [Rows.uptoBulk]
  | .ptr _ => by simp [Rows.uptoBulk]
  | .slice _ _ => by simp [Rows.uptoBulk]
  | .agg _ => by simp [Rows.uptoBulk]
  | .iface _ _ => by simp [Rows.uptoBulk]
  | .map _ => by simp [Rows.uptoBulk]
  | .held _ => by simp [Rows.uptoBulk]
theorem bulk_all {H : Type} : ∀ l : List (DataW H), l.length ≤ Rows.uptoBulkAll l
  | [] => by simp [Rows.uptoBulkAll]
  | d :: l => by
    have h1 := bulk_one d
    have h2 := bulk_all l
    simp only [Rows.uptoBulkAll, List.length_cons]; omega
theorem bulk_slice {H : Type} {es sp rest : List (DataW H)} (h : Rows.uptoSmall H (.slice es sp :: rest) = true) : es.length + sp.length ≤ 1048576 := by
  have h0 : Rows.uptoBulkAll (DataW.slice es sp :: rest) ≤ 1048576 := of_decide_eq_true h
  have h1 := bulk_all es
  have h2 := bulk_all sp
  simp only [Rows.uptoBulkAll, Rows.uptoBulk] at h0
  omega

theorem bulk_part {H : Type} {d : DataW H} : ∀ {l : List (DataW H)}, d ∈ l → Rows.uptoBulk d ≤ Rows.uptoBulkAll l
  | [], h => by cases h
  | x :: l, h => by
    simp only [Rows.uptoBulkAll]
    rcases List.mem_cons.1 h with e | h
    · subst e; omega
    · have := bulk_part h; omega

theorem bulk_at {H : Type} {es sp l : List (DataW H)} (h : Rows.uptoSmall H l = true) (hm : DataW.slice es sp ∈ l) : es.length + sp.length ≤ 1048576 := by
  have h0 : Rows.uptoBulkAll l ≤ 1048576 := of_decide_eq_true h
  have h1 := bulk_all es
  have h2 := bulk_all sp
  have h3 := bulk_part hm
  simp only [Rows.uptoBulk] at h3
  omega

theorem bulk_str {H : Type} {s : ByteArray} {l : List (DataW H)} (h : Rows.uptoSmall H l = true) (hm : DataW.lit (.string s.data.toList) ∈ l) : s.size ≤ 1048576 := by
  have h0 : Rows.uptoBulkAll l ≤ 1048576 := of_decide_eq_true h
  have h3 := bulk_part hm
  simp only [Rows.uptoBulk, Array.length_toList] at h3
  have : s.data.size = s.size := rfl
  omega

end Go.Proofs.Yteckmcgihbicfab
