/-
  What an argument that is a slice of tokens holds: all within their bounds, each text within the reach of memory, and how it counts in the bulk.
-/
import Derived.ProofKit
import Derived.OpenShut
import Derived.SizedLaws
import Derived.Deep.Slices
import Derived.Deep.SlicePairs
import Derived.Lib.SmallJoins
import Derived.Test.YtccllonkhklldabProg
import Derived.Test.YtccllonkhklldabBulk
import Derived.Test.YtccllonkhklldabToks
namespace Go.Proofs.Ytccllonkhklldab
open Go.ChangeShapes Go.WideShapes Go.ChangeAt Go.RowKit
set_option maxRecDepth 100000

theorem ArgToks.cellsA : Try.prog.cellsOf 30 = 3 := by kernel_rfl
theorem ArgToks.cells8 : Try.prog.cellsOf 5 = 1 := by kernel_rfl
theorem ArgToks.cells64 : Try.prog.cellsOf 3 = 1 := by kernel_rfl
theorem ArgToks.cellsS : Try.prog.cellsOf 9 = 1 := by kernel_rfl
theorem ArgToks.bytesA : Try.prog.bytesOf 30 = 32 := by kernel_rfl

theorem weightsTok {H : Type} {P : Program} {e : TypeId} : ∀ {l : List (DataW H)} {d : DataW H}, d ∈ l → ∀ n ∈ d.weights P e, n ∈ DataW.weightsAll P e l
  | d0 :: l, d, hd, n, hn => by
    simp only [DataW.weightsAll, List.mem_append]
    rcases List.mem_cons.1 hd with rfl | h
    · exact Or.inl hn
    · exact Or.inr (weightsTok h n hn)

theorem toksV_mk {w : World} {x : Addr} {n : Nat} {f : Nat → TokT} (h : ∀ i, i < n → w.cell? (x.add (i * 3)) = some (.int .u8 (f i).1) ∧ w.cell? (x.add (i * 3 + 1)) = some (.string (f i).2.1) ∧ w.cell? (x.add (i * 3 + 2)) = some (.int .i64 (f i).2.2)) : ToksV w (some x) ((List.range n).map f) := by
  intro j hj
  rw [List.length_map, List.length_range] at hj
  have h0 := (h 0 (by omega)).1
  obtain ⟨b, off, spot⟩ := x
  have hs : spot = none := by simpa [Addr.add] using World.cell?_spot h0
  subst hs
  obtain ⟨h1, h2, h3⟩ := h j hj
  rw [Addr.add_lit] at h1 h2 h3
  have e : nthT ((List.range n).map f) j = f j := by simp [nthT, List.getD, hj]
  rw [e]
  exact ⟨b, off, rfl, World.block_lt_of_cell? _ _ h1, h1, by rw [Nat.add_assoc]; exact h2, by rw [Nat.add_assoc]; exact h3⟩

theorem bulk_each {H : Type} (f : Nat → TokT) (D : Nat → DataW H) : ∀ (l : List Nat), (∀ i ∈ l, (f i).2.1.size + 1 ≤ Rows.uptoBulk (D i)) → bulkT (l.map f) + l.length ≤ Rows.uptoBulkAll (l.map D)
  | [], _ => by simp [bulkT]
  | i :: l, h => by
    have h1 := h i (by simp)
    have h2 := bulk_each f D l (fun k hk => h k (by simp [hk]))
    simp only [bulkT, List.map_cons, List.sum_cons, Rows.uptoBulkAll, List.length_cons] at h2 ⊢
    omega

set_option maxHeartbeats 1000000 in
theorem open_toks {H : Type} {enc : TypeId × Value → H} {w : World} {base fuel : Nat} {held : Bool} {a : Option Addr} {len cap : Nat} {d : DataW H} {ps : List MemPlace}
    (hf : DataW.trod enc Try.prog w base (fun _ => true) held fuel 22 [.slice a len cap] = some (d, ps)) (hs : ∀ n ∈ d.weights Try.prog 22, n ≤ reachBytes) :
    ∃ l : List TokT, l.length = len ∧ ToksV w a l ∧ ToksIn l ∧ 32 * len ≤ 140737488351232 ∧ bulkT l + len ≤ Rows.uptoBulk d := by
  rcases Go.Deep.open_slice Try.underlying22 hf with ⟨hcs, _⟩ | ⟨x, l, c, mm, nn, D, Pl, hcs, _, hl, hm, hmm, hx, hall⟩
  · simp at hcs
    obtain ⟨rfl, rfl, rfl⟩ := hcs
    exact ⟨[], rfl, toksV_nil, toksIn_nil, by omega, by simp [bulkT]⟩
  · simp at hcs
    obtain ⟨rfl, rfl, rfl⟩ := hcs
    simp only [Prod.mk.injEq] at hx
    obtain ⟨rfl, rfl⟩ := hx
    simp only [if_true] at hmm
    subst hmm
    have hs0 := hs ((((List.range len).map D).length + ((List.range (mm - len)).map fun j => D (len + j)).length) * Try.prog.bytesOf 30) (by simp [DataW.weights, Try.underlying22])
    rw [ArgToks.bytesA] at hs0
    simp only [List.length_map, List.length_range, reachBytes] at hs0
    have key : ∀ i, i < len → ∃ r : TokT, w.cell? (x.add (i * 3)) = some (.int .u8 r.1) ∧ w.cell? (x.add (i * 3 + 1)) = some (.string r.2.1) ∧ w.cell? (x.add (i * 3 + 2)) = some (.int .i64 r.2.2) ∧ TokIn r ∧ r.2.1.size + 1 ≤ Rows.uptoBulk (D i) := by
      intro i hi
      obtain ⟨cs, hc, ht⟩ := hall i (by omega)
      rw [ArgToks.cellsA] at hc
      obtain ⟨_, hlen, hcell⟩ := World.cells?_some hc
      obtain ⟨xs, k, _, hxy, _, hxl, hfl⟩ := DataW.trod_struct Try.underlying30 ht
      have g0 := hfl 0 _ rfl
      have g1 := hfl 1 _ rfl
      have g2 := hfl 2 _ rfl
      match xs, hxl, cs, hlen with
      | [y0, y1, y2], _, [v0, v1, v2], _ =>
        have e0 := hcell 0 (by omega)
        have e1 := hcell 1 (by omega)
        have e2 := hcell 2 (by omega)
        rw [Go.Deep.add_add] at e0 e1 e2
        simp [ArgToks.cells8, ArgToks.cells64, ArgToks.cellsS] at g0 g1 g2 e0 e1 e2
        obtain ⟨n0, q0, _, w0⟩ := DataW.trod_int Try.underlying5 g0
        obtain ⟨s1, q1, q3⟩ := DataW.trod_string Try.underlying9 g1
        obtain ⟨n2, q2, _, w2⟩ := DataW.trod_int Try.underlying3 g2
        simp at q0 q1 q2
        subst q0; subst q1; subst q2
        have b0 := bounds_u8 w0
        have b2 := bounds_i64 w2
        simp only [Prod.mk.injEq] at hxy
        refine ⟨(n0, s1, n2), by simpa using e0, e1, e2, ?_, ?_⟩
        · have hs2 := hs s1.size (by
            have hmem : D i ∈ (List.range len).map D := List.mem_map.2 ⟨i, List.mem_range.2 hi, rfl⟩
            simp only [DataW.weights, Try.underlying22, List.mem_cons, List.mem_append]
            refine Or.inr (Or.inl (weightsTok hmem _ ?_))
            rw [hxy.1]
            simp only [DataW.weights, Try.underlying30]
            refine DataW.weights_mem_each (j := 1) rfl rfl _ ?_
            simp_all [DataW.weights])
          simp only [reachBytes] at hs2
          exact ⟨by simp; omega, by simp; omega, hs2, by simp; omega, by simp; omega⟩
        · rw [hxy.1]
          have hm : (DataW.lit (.string s1.data.toList) : DataW H) ∈ [y0, y1, y2].map (·.1) := by simp_all
          have := bulk_part hm
          simp only [Rows.uptoBulk, Array.length_toList] at this ⊢
          have e : s1.data.size = s1.size := rfl
          omega
    let f : Nat → TokT := fun i => if h : i < len then Classical.choose (key i h) else (0, ⟨#[]⟩, 0)
    have hf' : ∀ i (h : i < len), f i = Classical.choose (key i h) := fun i h => dif_pos h
    refine ⟨(List.range len).map f, by simp, toksV_mk (fun i hi => ?_), fun j hj => ?_, by omega, ?_⟩
    · rw [hf' i hi]
      obtain ⟨h1, h2, h3, _⟩ := Classical.choose_spec (key i hi)
      exact ⟨h1, h2, h3⟩
    · rw [List.length_map, List.length_range] at hj
      have e : nthT ((List.range len).map f) j = f j := by simp [nthT, List.getD, hj]
      rw [e, hf' j hj]
      exact (Classical.choose_spec (key j hj)).2.2.2.1
    · have := bulk_each f D (List.range len) (fun i hi => by rw [hf' i (List.mem_range.1 hi)]; exact (Classical.choose_spec (key i (List.mem_range.1 hi))).2.2.2.2)
      simp only [List.length_range] at this
      simp only [Rows.uptoBulk]
      omega

end Go.Proofs.Ytccllonkhklldab
