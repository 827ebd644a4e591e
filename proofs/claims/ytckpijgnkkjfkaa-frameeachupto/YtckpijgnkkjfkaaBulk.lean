/-
  What the bound of an upto statement gives of a slice that is the first argument.
-/
import Derived.Test.YtckpijgnkkjfkaaRows
namespace Go.Proofs.Ytckpijgnkkjfkaa

theorem bulk_one {H : Type} : ∀ d : DataW H, 0 < Rows.uptoBulk d
  | .lit l => by cases l <;> simp [Rows.uptoBulk]
  | .nil => by simp [Rows.uptoBulk]
  | .ptr _ => by simp [Rows.uptoBulk]
  | .slice _ _ => by simp [Rows.uptoBulk]
  | .agg _ => by simp [Rows.uptoBulk]
  | .iface _ _ => by simp [Rows.uptoBulk]
  | .map _ => by simp [Rows.uptoBulk]
  | .held _ => by simp [Rows.uptoBulk]
theorem bulk_all {H : Type} : ∀ l : List (DataW H), l.length ≤ Rows.uptoBulkAll l
  | [] => by simp [Rows.uptoBulkAll]
  | d :: l => by
    have h1 := bulk_one d
    have h2 := bulk_all l
    simp only [Rows.uptoBulkAll, List.length_cons]; omega
theorem bulk_slice {H : Type} {es sp rest : List (DataW H)} (h : Rows.uptoSmall H (.slice es sp :: rest) = true) : es.length + sp.length ≤ 1048576 := by
  have h0 : Rows.uptoBulkAll (DataW.slice es sp :: rest) ≤ 1048576 := of_decide_eq_true h
  have h1 := bulk_all es
  have h2 := bulk_all sp
  simp only [Rows.uptoBulkAll, Rows.uptoBulk] at h0
  omega

end Go.Proofs.Ytckpijgnkkjfkaa
