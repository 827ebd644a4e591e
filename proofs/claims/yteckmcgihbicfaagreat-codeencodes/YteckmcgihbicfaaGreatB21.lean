/-
  Texts laid together in one: Slots, ArgInsts, KitBytesAny, Ref03Letter, Ref04Wrong, Ref01Split, Ref01OfText.
-/
import Derived.WalkKit
import Derived.ProofKit
import Derived.OpenShut
import Derived.SizedLaws
import Derived.Deep.Slices
import Derived.Deep.SlicePairs
import Derived.Lib.SmallJoins
import Derived.Test.YteckmcgihbicfaaGreatProg
import Derived.Test.YteckmcgihbicfaaGreatB01
import Derived.WalkSpells
import Derived.Deep.QuietTactic
import Derived.BigQuiet
import Derived.Test.YteckmcgihbicfaaGreatB15
import Derived.WalkMore
import Derived.Test.YteckmcgihbicfaaGreatB06
import Derived.Test.YteckmcgihbicfaaGreatB05
import Derived.Test.YteckmcgihbicfaaGreatB09
import Derived.Test.YteckmcgihbicfaaGreatB07
import Derived.Test.YteckmcgihbicfaaGreatB08
import Derived.Deep.RegionHeld3
import Derived.Deep.DrawnRows
/-
  A frame as its slots: any frame of so many slots is the list of them.
-/
namespace Go.Proofs.YteckmcgihbicfaaGreat
open Go

theorem hide {p : Prop} (h : p) : Go.RowKit.Hid p := h
/-- What a slot holds. -/
def slot (t : Array Value) (i : Nat) : Value := t.getD i undef
theorem frame_eq (t : Array Value) (n : Nat) (h : t.size = n) : t = ((List.range n).map (slot t)).toArray := by
  apply Array.ext
  · simp [h]
  · intro i h1 h2
    simp [slot, Array.getD, h1]
theorem frame99 (t : Array Value) (h : t.size = 99) : t = #[slot t 0, slot t 1, slot t 2, slot t 3, slot t 4, slot t 5, slot t 6, slot t 7, slot t 8, slot t 9, slot t 10, slot t 11, slot t 12, slot t 13, slot t 14, slot t 15, slot t 16, slot t 17, slot t 18, slot t 19, slot t 20, slot t 21, slot t 22, slot t 23, slot t 24, slot t 25, slot t 26, slot t 27, slot t 28, slot t 29, slot t 30, slot t 31, slot t 32, slot t 33, slot t 34, slot t 35, slot t 36, slot t 37, slot t 38, slot t 39, slot t 40, slot t 41, slot t 42, slot t 43, slot t 44, slot t 45, slot t 46, slot t 47, slot t 48, slot t 49, slot t 50, slot t 51, slot t 52, slot t 53, slot t 54, slot t 55, slot t 56, slot t 57, slot t 58, slot t 59, slot t 60, slot t 61, slot t 62, slot t 63, slot t 64, slot t 65, slot t 66, slot t 67, slot t 68, slot t 69, slot t 70, slot t 71, slot t 72, slot t 73, slot t 74, slot t 75, slot t 76, slot t 77, slot t 78, slot t 79, slot t 80, slot t 81, slot t 82, slot t 83, slot t 84, slot t 85, slot t 86, slot t 87, slot t 88, slot t 89, slot t 90, slot t 91, slot t 92, slot t 93, slot t 94, slot t 95, slot t 96, slot t 97, slot t 98] := (frame_eq t 99 h).trans rfl

/-- What holds where a piece of code goes on. -/
def onNormal (K : Act → World → Prop) : Exit → Act → World → Prop
  | .normal, a, w => K a w
  | _, _, _ => False
theorem onNormal_normal (K : Act → World → Prop) (a : Act) (w : World) : onNormal K .normal a w = K a w := rfl
theorem wp_norm {P : Program} {c : Code} {Q : Exit → Act → World → Prop} {a : Act} {w : World} (h : c.wp P (onNormal (Q .normal)) a w) : c.wp P Q a w :=
  wp_mono h fun e a w h => by
    cases e with
    | normal => exact h
    | _ => exact False.elim h

end Go.Proofs.YteckmcgihbicfaaGreat

/-
  What an argument that is an instruction, or a slice of instructions, holds: all within their bounds, each list within the reach of memory.
-/
namespace Go.Proofs.YteckmcgihbicfaaGreat
open Go.ChangeShapes Go.WideShapes Go.ChangeAt Go.RowKit
set_option maxRecDepth 100000

theorem ArgInsts.cellsA : Tryz.prog.cellsOf 69 = 3 := by kernel_rfl
theorem ArgInsts.cells8 : Tryz.prog.cellsOf 5 = 1 := by kernel_rfl
theorem ArgInsts.cells32 : Tryz.prog.cellsOf 23 = 1 := by kernel_rfl
theorem ArgInsts.cellsS : Tryz.prog.cellsOf 9 = 1 := by kernel_rfl
theorem ArgInsts.bytesA : Tryz.prog.bytesOf 69 = 24 := by kernel_rfl
theorem ArgInsts.cells16 : Tryz.prog.cellsOf 42 = 1 := by kernel_rfl
theorem ArgInsts.cellsL : Tryz.prog.cellsOf 43 = 1 := by kernel_rfl

theorem ArgInsts.cellsI : Tryz.prog.cellsOf 45 = 4 := by kernel_rfl
theorem ArgInsts.bytesI : Tryz.prog.bytesOf 45 = 40 := by kernel_rfl

theorem weightsIn {H : Type} {P : Program} {e : TypeId} : ∀ {l : List (DataW H)} {d : DataW H}, d ∈ l → ∀ n ∈ d.weights P e, n ∈ DataW.weightsAll P e l
  | d0 :: l, d, hd, n, hn => by
    simp only [DataW.weightsAll, List.mem_append]
    rcases List.mem_cons.1 hd with rfl | h
    · exact Or.inl hn
    · exact Or.inr (weightsIn h n hn)

theorem argsV_mk {w : World} {x : Addr} {n : Nat} {f : Nat → ArgT} (h : ∀ i, i < n → w.cell? (x.add (i * 3)) = some (.int .u8 (f i).1) ∧ w.cell? (x.add (i * 3 + 1)) = some (.int .u32 (f i).2.1) ∧ w.cell? (x.add (i * 3 + 2)) = some (.string (f i).2.2)) : ArgsV w (some x) ((List.range n).map f) := by
  intro j hj
  rw [List.length_map, List.length_range] at hj
  have h0 := (h 0 (by omega)).1
  obtain ⟨b, off, spot⟩ := x
  have hs : spot = none := by simpa [Addr.add] using World.cell?_spot h0
  subst hs
  obtain ⟨h1, h2, h3⟩ := h j hj
  rw [Addr.add_lit] at h1 h2 h3
  have e : nthA ((List.range n).map f) j = f j := by simp [nthA, List.getD, hj]
  rw [e]
  exact ⟨b, off, rfl, World.block_lt_of_cell? _ _ h1, h1, by rw [Nat.add_assoc]; exact h2, by rw [Nat.add_assoc]; exact h3⟩

set_option maxHeartbeats 1000000 in
theorem open_args {H : Type} {enc : TypeId × Value → H} {w : World} {base fuel : Nat} {held : Bool} {a : Option Addr} {len cap : Nat} {d : DataW H} {ps : List MemPlace}
    (hf : DataW.trod enc Tryz.prog w base (fun _ => true) held fuel 43 [.slice a len cap] = some (d, ps)) (hs : ∀ n ∈ d.weights Tryz.prog 43, n ≤ reachBytes) :
    ∃ l : List ArgT, l.length = len ∧ ArgsV w a l ∧ ArgsOk l ∧ 24 * len ≤ 140737488351232 ∧ len ≤ cap := by
  rcases Go.Deep.open_slice Tryz.underlying43 hf with ⟨hcs, _⟩ | ⟨x, l, c, mm, nn, D, Pl, hcs, _, hl, hm, hmm, hx, hall⟩
  · simp at hcs
    obtain ⟨rfl, rfl, rfl⟩ := hcs
    exact ⟨[], rfl, argsV_nil, argsOk_nil, by omega, by omega⟩
  · simp at hcs
    obtain ⟨rfl, rfl, rfl⟩ := hcs
    simp only [Prod.mk.injEq] at hx
    obtain ⟨rfl, rfl⟩ := hx
    simp only [if_true] at hmm
    subst hmm
    have hs0 := hs ((((List.range len).map D).length + ((List.range (mm - len)).map fun j => D (len + j)).length) * Tryz.prog.bytesOf 69) (by simp [DataW.weights, Tryz.underlying43])
    rw [ArgInsts.bytesA] at hs0
    simp only [List.length_map, List.length_range, reachBytes] at hs0
    have key : ∀ i, i < len → ∃ r : ArgT, w.cell? (x.add (i * 3)) = some (.int .u8 r.1) ∧ w.cell? (x.add (i * 3 + 1)) = some (.int .u32 r.2.1) ∧ w.cell? (x.add (i * 3 + 2)) = some (.string r.2.2) ∧ ArgOk r := by
      intro i hi
      obtain ⟨cs, hc, ht⟩ := hall i (by omega)
      rw [ArgInsts.cellsA] at hc
      obtain ⟨_, hlen, hcell⟩ := World.cells?_some hc
      obtain ⟨xs, k, _, hxy, _, hxl, hfl⟩ := DataW.trod_struct Tryz.underlying69 ht
      have g0 := hfl 0 _ rfl
      have g1 := hfl 1 _ rfl
      have g2 := hfl 2 _ rfl
      match xs, hxl, cs, hlen with
      | [y0, y1, y2], _, [v0, v1, v2], _ =>
        have e0 := hcell 0 (by omega)
        have e1 := hcell 1 (by omega)
        have e2 := hcell 2 (by omega)
        rw [Go.Deep.add_add] at e0 e1 e2
        simp [ArgInsts.cells8, ArgInsts.cells32, ArgInsts.cellsS] at g0 g1 g2 e0 e1 e2
        obtain ⟨n0, q0, _, w0⟩ := DataW.trod_int Tryz.underlying5 g0
        obtain ⟨n1, q1, _, w1⟩ := DataW.trod_int Tryz.underlying23 g1
        obtain ⟨s2, q2, q3⟩ := DataW.trod_string Tryz.underlying9 g2
        simp at q0 q1 q2
        subst q0; subst q1; subst q2
        have b0 := bounds_u8 w0
        have b1 := bounds_u32 w1
        refine ⟨(n0, n1, s2), by simpa using e0, e1, e2, ?_⟩
        have hs2 := hs s2.size (by
          have hmem : D i ∈ (List.range len).map D := List.mem_map.2 ⟨i, List.mem_range.2 hi, rfl⟩
          simp only [DataW.weights, Tryz.underlying43, List.mem_cons, List.mem_append]
          refine Or.inr (Or.inl (weightsIn hmem _ ?_))
          simp only [Prod.mk.injEq] at hxy
          rw [hxy.1]
          simp only [DataW.weights, Tryz.underlying69]
          refine DataW.weights_mem_each (j := 2) rfl rfl _ ?_
          simp_all [DataW.weights])
        simp only [reachBytes] at hs2
        exact ⟨by simp; omega, by simp; omega, by simp; omega, by simp; omega, hs2⟩
    let f : Nat → ArgT := fun i => if h : i < len then Classical.choose (key i h) else noArg
    have hf' : ∀ i (h : i < len), f i = Classical.choose (key i h) := fun i h => dif_pos h
    refine ⟨(List.range len).map f, by simp, argsV_mk (fun i hi => ?_), fun j hj => ?_, by omega, hl⟩
    · rw [hf' i hi]
      obtain ⟨h1, h2, h3, _⟩ := Classical.choose_spec (key i hi)
      exact ⟨h1, h2, h3⟩
    · rw [List.length_map, List.length_range] at hj
      have e : nthA ((List.range len).map f) j = f j := by simp [nthA, List.getD, hj]
      rw [e, hf' j hj]
      exact (Classical.choose_spec (key j hj)).2.2.2

theorem open_inst {H : Type} {enc : TypeId × Value → H} {w : World} {b0 base : Nat} {held : Bool} {v : Value} {d : DataW H} {ps : List MemPlace}
    (hv : Value.okWide Tryz.prog w .any b0 45 v) (h : DataW.Trod enc Tryz.prog w base (fun _ => true) held 45 v d ps) (hs : ∀ n ∈ d.weights Tryz.prog 45, n ≤ reachBytes) :
    ∃ (x : InstT) (a : Option Addr) (n c : Nat), v = instV x a n c ∧ x.2.2.2.length = n ∧ InstOk x ∧ ArgsV w a x.2.2.2 ∧ n ≤ c := by
  obtain ⟨v0, v1, v2, v3, y0, y1, y2, y3, m, rfl, rfl, _, t0, t1, t2, t3⟩ := Go.Joins.open_agg4 Tryz.underlying45 (by kernel_rfl) (by kernel_rfl) hv h
  obtain ⟨n0, e0, _, w0⟩ := DataW.trod_int Tryz.underlying42 t0
  obtain ⟨n1, e1, _, w1⟩ := DataW.trod_int Tryz.underlying23 t1
  obtain ⟨n2, e2, _, w2⟩ := DataW.trod_int Tryz.underlying23 t2
  simp at e0 e1 e2
  subst e0; subst e1; subst e2
  have b0 := bounds_u16 w0
  have b1 := bounds_u32 w1
  have b2 := bounds_u32 w2
  obtain ⟨a, n, c, rfl⟩ : ∃ a n c, v3 = .slice a n c := by
    rcases Go.Deep.open_slice Tryz.underlying43 t3 with ⟨hcs, _⟩ | ⟨x, l, c, mm, nn, D, Pl, hcs, _⟩
    · simp at hcs; exact ⟨_, _, _, hcs⟩
    · simp at hcs; exact ⟨_, _, _, hcs⟩
  obtain ⟨l, hl, hv3, hok, hr, hc⟩ := open_args t3 (fun k hk => hs k (by
    simp only [DataW.weights, Tryz.underlying45]
    exact DataW.weights_mem_each (j := 3) rfl rfl _ hk))
  exact ⟨(n0, n1, n2, l), a, n, c, rfl, hl, ⟨by simp; omega, by simp; omega, by simp; omega, by simp; omega, by simp; omega, by simp; omega, hok, by rw [hl]; exact hr⟩, hv3, hc⟩

theorem instsV_mk {w : World} {x : Addr} {n : Nat} {f : Nat → InstT} (h : ∀ i, i < n → w.cell? (x.add (i * 4)) = some (.int .u16 (f i).1) ∧ w.cell? (x.add (i * 4 + 1)) = some (.int .u32 (f i).2.1) ∧ w.cell? (x.add (i * 4 + 2)) = some (.int .u32 (f i).2.2.1) ∧
    ∃ aj cj, w.cell? (x.add (i * 4 + 3)) = some (.slice aj (f i).2.2.2.length cj) ∧ ArgsV w aj (f i).2.2.2 ∧ (f i).2.2.2.length ≤ cj) : InstsV w (some x) ((List.range n).map f) := by
  intro j hj
  rw [List.length_map, List.length_range] at hj
  have h0 := (h 0 (by omega)).1
  obtain ⟨b, off, spot⟩ := x
  have hs : spot = none := by simpa [Addr.add] using World.cell?_spot h0
  subst hs
  obtain ⟨h1, h2, h3, aj, cj, h4, h5, h6⟩ := h j hj
  rw [Addr.add_lit] at h1 h2 h3 h4
  have e : nthI ((List.range n).map f) j = f j := by simp [nthI, List.getD, hj]
  rw [e]
  exact ⟨b, off, aj, cj, _, rfl, World.block_lt_of_cell? _ _ h1, h1, by rw [Nat.add_assoc]; exact h2, by rw [Nat.add_assoc]; exact h3, by rw [Nat.add_assoc]; exact h4, rfl, h5, h6⟩

set_option maxHeartbeats 1000000 in
theorem open_insts {H : Type} {enc : TypeId × Value → H} {w : World} {base fuel : Nat} {held : Bool} {a : Option Addr} {len cap : Nat} {d : DataW H} {ps : List MemPlace}
    (hf : DataW.trod enc Tryz.prog w base (fun _ => true) held fuel 24 [.slice a len cap] = some (d, ps)) (hs : ∀ n ∈ d.weights Tryz.prog 24, n ≤ reachBytes) :
    ∃ l : List InstT, l.length = len ∧ InstsV w a l ∧ InstsOk l ∧ 40 * len ≤ 140737488351232 ∧ len ≤ cap := by
  rcases Go.Deep.open_slice Tryz.underlying24 hf with ⟨hcs, _⟩ | ⟨x, l, c, mm, nn, D, Pl, hcs, _, hl, hm, hmm, hx, hall⟩
  · simp at hcs
    obtain ⟨rfl, rfl, rfl⟩ := hcs
    exact ⟨[], rfl, instsV_nil, instsOk_nil, by omega, by omega⟩
  · simp at hcs
    obtain ⟨rfl, rfl, rfl⟩ := hcs
    simp only [Prod.mk.injEq] at hx
    obtain ⟨rfl, rfl⟩ := hx
    simp only [if_true] at hmm
    subst hmm
    have hs0 := hs ((((List.range len).map D).length + ((List.range (mm - len)).map fun j => D (len + j)).length) * Tryz.prog.bytesOf 45) (by simp [DataW.weights, Tryz.underlying24])
    rw [ArgInsts.bytesI] at hs0
    simp only [List.length_map, List.length_range, reachBytes] at hs0
    have key : ∀ i, i < len → ∃ r : InstT, w.cell? (x.add (i * 4)) = some (.int .u16 r.1) ∧ w.cell? (x.add (i * 4 + 1)) = some (.int .u32 r.2.1) ∧ w.cell? (x.add (i * 4 + 2)) = some (.int .u32 r.2.2.1) ∧
        (∃ aj cj, w.cell? (x.add (i * 4 + 3)) = some (.slice aj r.2.2.2.length cj) ∧ ArgsV w aj r.2.2.2 ∧ r.2.2.2.length ≤ cj) ∧ InstOk r := by
      intro i hi
      obtain ⟨cs, hc, ht⟩ := hall i (by omega)
      rw [ArgInsts.cellsI] at hc
      obtain ⟨_, hlen, hcell⟩ := World.cells?_some hc
      obtain ⟨xs, k, _, hxy, _, hxl, hfl⟩ := DataW.trod_struct Tryz.underlying45 ht
      have g0 := hfl 0 _ rfl
      have g1 := hfl 1 _ rfl
      have g2 := hfl 2 _ rfl
      have g3 := hfl 3 _ rfl
      match xs, hxl, cs, hlen with
      | [y0, y1, y2, y3], _, [v0, v1, v2, v3], _ =>
        have e0 := hcell 0 (by omega)
        have e1 := hcell 1 (by omega)
        have e2 := hcell 2 (by omega)
        have e3 := hcell 3 (by omega)
        rw [Go.Deep.add_add] at e0 e1 e2 e3
        simp [ArgInsts.cells16, ArgInsts.cells32, ArgInsts.cellsL] at g0 g1 g2 g3 e0 e1 e2 e3
        obtain ⟨n0, q0, _, w0⟩ := DataW.trod_int Tryz.underlying42 g0
        obtain ⟨n1, q1, _, w1⟩ := DataW.trod_int Tryz.underlying23 g1
        obtain ⟨n2, q2, _, w2⟩ := DataW.trod_int Tryz.underlying23 g2
        simp at q0 q1 q2
        subst q0; subst q1; subst q2
        have b0 := bounds_u16 w0
        have b1 := bounds_u32 w1
        have b2 := bounds_u32 w2
        obtain ⟨a, n, c, rfl⟩ : ∃ a n c, v3 = .slice a n c := by
          rcases Go.Deep.open_slice Tryz.underlying43 g3 with ⟨hcs, _⟩ | ⟨x, l, c, mm, nn, D, Pl, hcs, _⟩
          · simp at hcs; exact ⟨_, _, _, hcs⟩
          · simp at hcs; exact ⟨_, _, _, hcs⟩
        obtain ⟨l, hl, hv3, hok, hr, hc⟩ := open_args g3 (fun k hk => hs k (by
          have hmem : D i ∈ (List.range len).map D := List.mem_map.2 ⟨i, List.mem_range.2 hi, rfl⟩
          simp only [DataW.weights, Tryz.underlying24, List.mem_cons, List.mem_append]
          refine Or.inr (Or.inl (weightsIn hmem _ ?_))
          simp only [Prod.mk.injEq] at hxy
          rw [hxy.1]
          simp only [DataW.weights, Tryz.underlying45]
          exact DataW.weights_mem_each (j := 3) rfl rfl _ hk))
        subst hl
        exact ⟨(n0, n1, n2, l), by simpa using e0, e1, e2, ⟨a, c, e3, hv3, hc⟩, by simp; omega, by simp; omega, by simp; omega, by simp; omega, by simp; omega, by simp; omega, hok, hr⟩
    let f : Nat → InstT := fun i => if h : i < len then Classical.choose (key i h) else noInst
    have hf' : ∀ i (h : i < len), f i = Classical.choose (key i h) := fun i h => dif_pos h
    refine ⟨(List.range len).map f, by simp, instsV_mk (fun i hi => ?_), fun j hj => ?_, by omega, hl⟩
    · rw [hf' i hi]
      obtain ⟨h1, h2, h3, h4, _⟩ := Classical.choose_spec (key i hi)
      exact ⟨h1, h2, h3, h4⟩
    · rw [List.length_map, List.length_range] at hj
      have e : nthI ((List.range len).map f) j = f j := by simp [nthI, List.getD, hj]
      rw [e, hf' j hj]
      exact (Classical.choose_spec (key j hj)).2.2.2.2

theorem open_module {H : Type} {enc : TypeId × Value → H} {w : World} {b0 base : Nat} {held : Bool} {v : Value} {d : DataW H} {ps : List MemPlace}
    (hv : Value.okWide Tryz.prog w .any b0 26 v) (h : DataW.Trod enc Tryz.prog w base (fun _ => true) held 26 v d ps) (hs : ∀ n ∈ d.weights Tryz.prog 26, n ≤ reachBytes) :
    ∃ (gen bound : Int) (a : Option Addr) (n c : Nat) (l : List InstT), v = .agg #[.int .u32 gen, .int .u32 bound, .slice a n c] ∧ 0 ≤ gen ∧ gen < 4294967296 ∧ 0 ≤ bound ∧ bound < 4294967296 ∧ l.length = n ∧ InstsV w a l ∧ InstsOk l ∧ 40 * n ≤ 140737488351232 ∧ n ≤ c := by
  obtain ⟨v0, v1, v3, y0, y1, y3, m, rfl, rfl, _, t0, t1, t3⟩ := Go.Joins.open_agg3 Tryz.underlying26 (by kernel_rfl) (by kernel_rfl) hv h
  obtain ⟨n0, e0, _, w0⟩ := DataW.trod_int Tryz.underlying23 t0
  obtain ⟨n1, e1, _, w1⟩ := DataW.trod_int Tryz.underlying23 t1
  simp at e0 e1
  subst e0; subst e1
  have b0 := bounds_u32 w0
  have b1 := bounds_u32 w1
  obtain ⟨a, n, c, rfl⟩ : ∃ a n c, v3 = .slice a n c := by
    rcases Go.Deep.open_slice Tryz.underlying24 t3 with ⟨hcs, _⟩ | ⟨x, l, c, mm, nn, D, Pl, hcs, _⟩
    · simp at hcs; exact ⟨_, _, _, hcs⟩
    · simp at hcs; exact ⟨_, _, _, hcs⟩
  obtain ⟨l, hl, hv3, hok, hr, hc⟩ := open_insts t3 (fun k hk => hs k (by
    simp only [DataW.weights, Tryz.underlying26]
    exact DataW.weights_mem_each (j := 2) rfl rfl _ hk))
  exact ⟨n0, n1, a, n, c, l, rfl, by omega, by omega, by omega, by omega, hl, hv3, hok, hr, hc⟩

theorem open_raw {H : Type} {enc : TypeId × Value → H} {w : World} {b0 base : Nat} {held : Bool} {v : Value} {d : DataW H} {ps : List MemPlace}
    (hv : Value.okWide Tryz.prog w .any b0 48 v) (h : DataW.Trod enc Tryz.prog w base (fun _ => true) held 48 v d ps) (hs : ∀ n ∈ d.weights Tryz.prog 48, n ≤ reachBytes) :
    ∃ (op : Int) (a : Option Addr) (n c : Nat) (zs : List Int), v = .agg #[.int .u16 op, .slice a n c] ∧ 0 ≤ op ∧ op < 65536 ∧ zs.length = n ∧ View .u32 w a zs ∧ Within 4294967296 zs ∧ 4 * n ≤ 140737488351232 ∧ n ≤ c := by
  obtain ⟨v0, v1, y0, y1, m, rfl, rfl, _, t0, t1⟩ := Go.Joins.open_agg2 Tryz.underlying48 (by kernel_rfl) (by kernel_rfl) hv h
  obtain ⟨n0, e0, _, w0⟩ := DataW.trod_int Tryz.underlying42 t0
  simp at e0
  subst e0
  have b0 := bounds_u16 w0
  rcases open_ints Tryz.underlying46 Tryz.underlying23 ArgInsts.cells32 t1 with ⟨hcs, _⟩ | ⟨y, l, c, zs, hcs, _, hl1, hm1, hz1, hx1, hcell, hwz⟩
  · simp at hcs
    subst hcs
    exact ⟨n0, none, 0, 0, [], rfl, by omega, by omega, rfl, view_nil, within_nil, by omega, by omega⟩
  · simp at hcs
    subst hcs
    simp only [if_true] at hz1
    have hs1 := hs (((lits (H := H) .u32 (zs.take l)).length + (lits (H := H) .u32 (zs.drop l)).length) * Tryz.prog.bytesOf 23) (by
      simp only [DataW.weights, Tryz.underlying48]
      refine DataW.weights_mem_each (j := 1) rfl rfl _ ?_
      have : y1.1 = DataW.slice (lits .u32 (zs.take l)) (lits .u32 (zs.drop l)) := by rw [hx1]
      rw [this]
      simp [DataW.weights, Tryz.underlying46])
    rw [show Tryz.prog.bytesOf 23 = 4 by kernel_rfl] at hs1
    simp only [lits, List.length_map, List.length_take, List.length_drop, reachBytes] at hs1
    have hlen : (zs.take l).length = l := by rw [List.length_take]; omega
    exact ⟨n0, some y, l, c, zs.take l, rfl, by omega, by omega, hlen, view_take hcell (by omega), within_take fun z hz => by have := bounds_u32 (hwz z hz); omega, by omega, hl1⟩

end Go.Proofs.YteckmcgihbicfaaGreat

/-
  Bytes of the kit tells whether bytes are the same.
-/
namespace Go.Proofs.YteckmcgihbicfaaGreat
open Go.RowKit
set_option linter.unusedVariables false
set_option maxRecDepth 10000

set_option maxHeartbeats 1000000 in
theorem bytes_any (a b : Option Addr) (n m ca cb : Nat) (xs ys : List Int) (w : World) (ha : View .u8 w a xs) (hb : View .u8 w b ys) (hl : xs.length = n) (hm : ys.length = m) (hn : n ≤ 140737488351232) (hm2 : m ≤ 140737488351232) (r : Bool) (hr : r = true ↔ xs = ys) :
    Calls Tryz.prog 10 #[.slice a n ca, .slice b m cb] w fun e w' => e = .returned (.bool r) ∧ ∃ q, w' = w.drewN q := by
  have HL : Hid (xs.length = n) := hl
  have HM : Hid (ys.length = m) := hm
  have HR : Hid (r = true ↔ xs = ys) := hr
  clear hl hm hr
  by_cases hnm : n = m
  · subst hnm
    go_enter Tryz.func10, Tryz.ntmps10
    go_wp2
    go_loopw [5] (fun i wr => ∃ k q : Nat, k ≤ n ∧ i = .int .i64 k ∧ wr = w.drewN q ∧ ∀ j, j < k → nth xs j = nth ys j) (fun i _ => n - (intOf i).toNat)
    case atStart => exact ⟨0, 0, Nat.zero_le _, rfl, rfl, fun j hj => by omega⟩
    case round =>
      obtain ⟨k, q, hk, rfl, rfl, hall⟩ := hrel
      have HALL : Hid (∀ j, j < k → nth xs j = nth ys j) := hall
      clear hall
      by_cases hlt : k < n
      · obtain ⟨b1, o1, rfl, _, c1⟩ := ha k (by rw [HL.out]; exact hlt)
        obtain ⟨b2, o2, rfl, _, c2⟩ := hb k (by rw [HM.out]; exact hlt)
        have hk0 : (0 : Int) ≤ (k : Int) := by omega
        have hki : (k : Int) < (n : Int) := by omega
        have HX : Hid (nth xs k = nth xs k) := rfl
        generalize hx : nth xs k = x at *
        generalize hy : nth ys k = y at *
        have HXE : Hid (nth xs k = x) := hx
        have HYE : Hid (nth ys k = y) := hy
        clear ha hb hx hy HX
        by_cases hxy : x = y
        · subst hxy
          go_wp2
          go_quiet (fail)
          go_wp2
          go_roundw
          case rel => exact ⟨k + 1, _, by omega, by go_num, rfl, fun j hj => by
            by_cases hjk : j < k
            · exact HALL.out j hjk
            · obtain rfl : j = k := by omega
              rw [HXE.out, HYE.out]⟩
          case measure => simp [intOf]; omega
        · have hr : r = false := by
            cases hr : r with
            | false => rfl
            | true =>
              have := HR.out.1 hr
              exact absurd (by rw [← HXE.out, ← HYE.out, this]) hxy
          subst hr
          have hxyb : (x == y) = false := by simpa using hxy
          go_wp2
          go_quiet (fail)
          go_wp2
          go_ret
          exact ⟨by simp, _, World.drewN_drewN _ _ _⟩
      · obtain rfl : k = n := by omega
        have hr : r = true := HR.out.2 (nth_ext (by rw [HL.out, HM.out]) fun j hj => HALL.out j (by rw [← HL.out]; exact hj))
        subst hr
        go_wp2
        go_ret
        exact ⟨rfl, q, rfl⟩
  · have hr : r = false := by
      cases hr : r with
      | false => rfl
      | true =>
        have := HR.out.1 hr
        exact absurd (by rw [← HL.out, ← HM.out, this]) hnm
    subst hr
    have hnm' : ¬ (n : Int) = (m : Int) := by omega
    clear hnm
    go_enter Tryz.func10, Tryz.ntmps10
    go_wp2
    go_ret
    exact ⟨by simp, 0, rfl⟩

end Go.Proofs.YteckmcgihbicfaaGreat

/-
  What Letter of the document's answer returns, for every operation and number.
-/
namespace Go.Proofs.YteckmcgihbicfaaGreat
open Go.RowKit
set_option maxRecDepth 10000
set_option linter.unusedVariables false
set_option linter.unusedSimpArgs false

theorem ofV_look (n : Int) : ∃ m, ofV n = formV m (lookF refT n).1 := by
  unfold ofV
  cases h : (lookF refT n).2
  · rw [(lookF_false h).1]; exact ⟨0, rfl⟩
  · exact ⟨n, rfl⟩

theorem letterI_none (i : Int) : letterI noFrm i = 0 := by
  unfold letterI
  split
  · rfl
  · split
    · rename_i h1 h2
      have : (noFrm.2.2.2.1.size : Int) = 0 := rfl
      omega
    · have : mayB noFrm (i - noFrm.2.2.2.1.size) = false := rfl
      rw [this]; rfl

set_option maxRecDepth 10000 in
set_option maxHeartbeats 2000000 in
theorem refLetter_any (n i : Int) (w : World) (h1 : i < 9223372036854775808) :
    Calls Tryz.prog 48 #[.int .u16 n, .int .i64 i] w fun e w' => e = .returned (.int .u8 (letterI (lookF refT n).1 i)) ∧ Below w.heap.size w w' := by
  have hR := fun w => refOf_any n w
  obtain ⟨m, hm⟩ := ofV_look n
  rw [hm] at hR
  clear hm
  have hs := look_short n
  have HN : Hid ((lookF refT n).2 = false → (lookF refT n).1 = noFrm) := fun h => by rw [(lookF_false h).1]
  generalize (lookF refT n).1 = f at *
  generalize (lookF refT n).2 = is at *
  have HL : Hid (∃ x, x = letterI f i) := ⟨_, rfl⟩
  have hs2 := hs
  simp only [shortF, Bool.and_eq_true, decide_eq_true_eq] at hs
  obtain ⟨⟨⟨s1, s2⟩, s3⟩, s4⟩ := hs
  obtain ⟨nm, t, r, fx, rs, mo, pa⟩ := f
  simp only at s1 s2 s3 s4
  clear hs2 HL
  cases is
  · have HE : Hid (letterI (nm, t, r, fx, rs, mo, pa) i = 0) := by show _ = _; rw [HN.out rfl]; exact letterI_none i
    clear HN
    unfold formV at hR
    go_enter Tryz.func48, Tryz.ntmps48
    go_wp2_with fail
    refine (hR _).mono ?_
    rintro e w1 ⟨rfl, hb⟩
    clear hR
    go_wp2
    go_ret
    exact ⟨by rw [HE.out]; rfl, hb.alloc hb.size _⟩
  · clear HN
    by_cases hi : i < 0
    · have HE : Hid (letterI (nm, t, r, fx, rs, mo, pa) i = 0) := by show _ = _; unfold letterI; rw [if_pos hi]
      unfold formV at hR
      go_enter Tryz.func48, Tryz.ntmps48
      go_wp2_with fail
      refine (hR _).mono ?_
      rintro e w1 ⟨rfl, hb⟩
      clear hR
      go_wp2
      go_ret
      exact ⟨by rw [HE.out]; rfl, hb.alloc hb.size _⟩
    · have hid : decide (i < 0) = false := by simpa using hi
      obtain ⟨k, rfl⟩ := Int.eq_ofNat_of_zero_le (show 0 ≤ i by omega)
      by_cases hx : (k : Int) < fx.size
      · have HE : Hid (letterI (nm, t, r, fx, rs, mo, pa) k = sgn fx k) := by show _ = _; unfold letterI; rw [if_neg hi, if_pos hx, Int.toNat_natCast]
        have hk : k < fx.size := by omega
        have hsg := sgn_at fx k hk
        unfold formV at hR
        go_enter Tryz.func48, Tryz.ntmps48
        go_wp2_with fail
        refine (hR _).mono ?_
        rintro e w1 ⟨rfl, hb⟩
        clear hR
        go_wp2
        go_ret
        exact ⟨by rw [HE.out]; rfl, hb.alloc hb.size _⟩
      · by_cases hr : rs.size = 0
        · have HE : Hid (letterI (nm, t, r, fx, rs, mo, pa) k = 0) := by show _ = _; unfold letterI; rw [if_neg hi, if_neg hx]; simp [mayB, hr]
          have hrz : (((rs.size : Nat) : Int) == 0) = true := by simp [hr]
          have hxd : ¬ k < fx.size := by omega
          clear hr hx hi h1 s3 s4 s1 s2
          unfold formV at hR
          go_enter Tryz.func48, Tryz.ntmps48
          go_wp2_with fail
          refine (hR _).mono ?_
          rintro e w1 ⟨rfl, hb⟩
          clear hR
          go_wp2
          go_ret
          exact ⟨by rw [HE.out]; rfl, hb.alloc hb.size _⟩
        · have hrz : (((rs.size : Nat) : Int) == 0) = false := by simp [hr]
          have hr0 : (0 : Int) < (rs.size : Int) := by omega
          have hz : ¬ (rs.size : Int) = 0 := by omega
          obtain ⟨b, hb⟩ : ∃ b : Nat, (k : Int) - (fx.size : Int) = b := ⟨k - fx.size, by omega⟩
          have hw1 : IntKind.i64.wrap ((k : Int) - (fx.size : Int)) = b := by rw [hb]; exact wrapI _ (by omega) (by omega)
          have hbl : (b : Int) < 9223372036854775808 := by omega
          have ht : Int.tdiv (b : Int) (rs.size : Int) = (b : Int) / (rs.size : Int) := Int.tdiv_eq_ediv_of_nonneg (by omega)
          have hq0 : 0 ≤ (b : Int) / (rs.size : Int) := Int.ediv_nonneg (by omega) (by omega)
          have hq1 : (b : Int) / (rs.size : Int) ≤ b := Int.ediv_le_self _ (by omega)
          have hw : IntKind.i64.wrap ((b : Int) / (rs.size : Int)) = (b : Int) / (rs.size : Int) := wrapI _ (by omega) (by omega)
          have HM : Hid (mayB (nm, t, r, fx, rs, mo, pa) b = if mo = 0 then true else decide ((b : Int) / (rs.size : Int) < mo)) := by show _ = _; simp [mayB, hr]
          have tm : Int.tmod (b : Int) (rs.size : Int) = (b : Int) % (rs.size : Int) := Int.tmod_eq_emod_of_nonneg (by omega)
          have m0 : 0 ≤ (b : Int) % (rs.size : Int) := Int.emod_nonneg _ hz
          have m1 : (b : Int) % (rs.size : Int) < (rs.size : Int) := Int.emod_lt_of_pos _ hr0
          have hw2 : IntKind.i64.wrap ((b : Int) % (rs.size : Int)) = (b : Int) % (rs.size : Int) := wrapI _ (by omega) (by omega)
          have HE : Hid (letterI (nm, t, r, fx, rs, mo, pa) k = if mayB (nm, t, r, fx, rs, mo, pa) b then sgn rs ((b : Int) % (rs.size : Int)).toNat else 0) := by show _ = _; unfold letterI; rw [if_neg hi, if_neg hx]; simp only [hb]
          by_cases hc : mo > 0 ∧ (b : Int) / (rs.size : Int) ≥ mo
          · have HF : Hid (letterI (nm, t, r, fx, rs, mo, pa) k = 0) := by show _ = _; rw [HE.out, HM.out, if_neg (show ¬ mo = 0 by omega), decide_eq_false (by omega)]; rfl
            clear HE HM tm m0 m1 hw2 hb
            have hxd : ¬ k < fx.size := by omega
            obtain ⟨hc1, hc2⟩ := hc
            clear hx hi hr h1 hbl s1 s2 hq1
            have g1 : decide (mo > 0) = true := by simpa using hc1
            have g2 : decide (mo ≤ (b : Int) / (rs.size : Int)) = true := by simpa using hc2
            unfold formV at hR
            go_enter Tryz.func48, Tryz.ntmps48
            go_wp2_with fail
            refine (hR _).mono ?_
            rintro e w1 ⟨rfl, hb⟩
            clear hR
            go_wp2
            go_quiet (fail)
            go_wp2
            go_ret
            exact ⟨by rw [HF.out]; rfl, bel_drewN (hb.alloc hb.size _) _⟩
          · have hmb : mayB (nm, t, r, fx, rs, mo, pa) b = true := by
              rw [HM.out]
              split
              · rfl
              · exact decide_eq_true (by omega)
            obtain ⟨j, hj⟩ := Int.eq_ofNat_of_zero_le m0
            have HF : Hid (letterI (nm, t, r, fx, rs, mo, pa) k = sgn rs j) := by show _ = _; rw [HE.out, hmb, if_pos rfl, hj]; rfl
            rw [hj] at tm hw2
            have hjl : j < rs.size := by omega
            have hsg := sgn_at rs j hjl
            have hxd : ¬ k < fx.size := by omega
            clear HE HM hmb hb hj m0 m1
            by_cases g1 : mo > 0
            · have g2 : decide (mo ≤ (b : Int) / (rs.size : Int)) = false := decide_eq_false (by omega)
              have g1' : decide (mo > 0) = true := decide_eq_true g1
              clear hx hi hr h1 hbl s1 s2 hq1 hc g1
              unfold formV at hR
              go_enter Tryz.func48, Tryz.ntmps48
              go_wp2_with fail
              refine (hR _).mono ?_
              rintro e w1 ⟨rfl, hb⟩
              clear hR
              go_wp2
              go_quiet (fail)
              go_wp2
              go_quiet (fail)
              go_wp2
              go_ret
              exact ⟨by rw [HF.out]; rfl, bel_drewN (bel_drewN (hb.alloc hb.size _) _) _⟩
            · have g1' : decide (mo > 0) = false := decide_eq_false g1
              clear hx hi hr h1 hbl s1 s2 hq1 hc g1 s3 s4
              unfold formV at hR
              go_enter Tryz.func48, Tryz.ntmps48
              go_wp2_with fail
              refine (hR _).mono ?_
              rintro e w1 ⟨rfl, hb⟩
              clear hR
              go_wp2
              go_quiet (fail)
              go_wp2
              go_quiet (fail)
              go_wp2
              go_ret
              exact ⟨by rw [HF.out]; rfl, bel_drewN (bel_drewN (hb.alloc hb.size _) _) _⟩

end Go.Proofs.YteckmcgihbicfaaGreat

/-
  What Wrong of the document's answer returns: what is wrong with an argument that stands where a letter is.
-/
namespace Go.Proofs.YteckmcgihbicfaaGreat
open Go.RowKit
set_option linter.unusedVariables false
set_option linter.unusedSimpArgs false
set_option maxRecDepth 10000

theorem wrongA_eq (c : Int) (x : ArgT) (b : Int) : wrongA c x b = if mayStandB c x = false then 42 else if x.1 = 1 ∧ noneB x.2.1 b = true then 43 else if x.1 = 4 ∧ enumB c x.2.1 = false then 31 else if nulS x.2.2 then 13 else 0 := by
  unfold wrongA
  by_cases hm : mayStandB c x = false
  · simp [hm]
  · have hk : kindI c = x.1 := by simp [mayStandB] at hm; exact hm.2.1.symm
    unfold faultW
    rw [hk, if_neg hm, if_neg hm]
    by_cases h3 : x.1 = 3
    · simp [h3]
    · have hs : x.2.2 = ByteArray.empty := by simp [mayStandB, h3] at hm; exact hm.2.2
      have hn : nulS x.2.2 = false := by rw [hs]; rfl
      by_cases h1 : x.1 = 1
      · cases hb : noneB x.2.1 b <;> simp [h1, hn]
      · by_cases h4 : x.1 = 4
        · cases hb : enumB c x.2.1 <;> simp [h4, hn]
        · simp [h1, h3, h4, hn]

theorem nul_first {s : ByteArray} {k : Nat} (hk : k < s.size) (h : (s[k].toNat : Int) = 0) : nulS s = true := by
  cases e : nulS s with
  | true => rfl
  | false => exact absurd (by rw [nth_strI s k hk]; exact h) ((nulS_false.1 e) k hk)
theorem nul_not {s : ByteArray} (h : ∀ j, (hj : j < s.size) → (s[j].toNat : Int) ≠ 0) : nulS s = false := nulS_false.2 fun k hk => by rw [nth_strI s k hk]; exact h k hk

set_option maxHeartbeats 4000000 in
theorem refWrong4_any (c : Int) (x : ArgT) (b : Int) (w : World) (hok : ArgOk x) (b0 : 0 ≤ b) (b1 : b < 4294967296) :
    Calls Tryz.prog 68 #[.int .u8 c, argV x, .int .u32 b] w fun e w' => e = .returned (.int .i64 (wrongA c x b)) ∧ Below w.heap.size w w' := by
  obtain ⟨R, hR⟩ : ∃ R, R = wrongA c x b := ⟨_, rfl⟩
  rw [← hR]
  rw [wrongA_eq] at hR
  obtain ⟨x1, x2, x3⟩ := x
  simp only at hR
  have HR := hide hR
  clear hR
  obtain ⟨g0, g1, g2, g3, g4⟩ := hok
  simp only at g0 g1 g2 g3 g4
  have hNo := fun wx => none_any x2 b wx g2 g3 b0 b1
  have hEn := fun wx => refEnum_any c x2 wx
  unfold argV
  simp only
  have hba : Below w.heap.size w (w.alloc (.cells #[.int .u8 x1, .int .u32 x2, .string x3] 69)) := (Below.refl _ w).alloc (Nat.le_refl _) _
  have kB : (w.alloc (.cells #[.int .u8 x1, .int .u32 x2, .string x3] 69)).heap[w.heap.size]? = some (.cells #[.int .u8 x1, .int .u32 x2, .string x3] 69 (0, 0)) := alloc_new w _ _
  have hsz : w.heap.size < (w.alloc (.cells #[.int .u8 x1, .int .u32 x2, .string x3] 69)).heap.size := by simp
  have hKd := fun wx => refKind_any c wx
  go_enter Tryz.func68, Tryz.ntmps68
  go_wp2_with fail
  generalize w.alloc (.cells #[.int .u8 x1, .int .u32 x2, .string x3] 69) = W at *
  have a0 := fun s : InC (Below W.heap.size W) => s.cell (p := ⟨w.heap.size, 0, none⟩) hsz ((one_block kB).1 0)
  have hK := fun s : InC (Below W.heap.size W) => Calls.inC s (hKd s.w)
  have hne : Nonempty (InC (Below W.heap.size W)) := ⟨⟨W, Below.refl _ _⟩⟩
  have hbl := below_drew W
  clear hKd g0 g1 g2 g3 b0 b1
  by_cases h0 : c = 0
  · subst h0
    refine wp_region_class (C := Below W.heap.size W) (by kernel_rfl) (by kernel_rfl) hbl ?_
    repeat (go_big_quiet_step (fail))
    refine wpQuiet_nil ?_
    rintro _ ⟨s, rfl⟩
    have hfin := hba.trans (s.ok.mono (by omega))
    clear hne hK a0 hNo hEn
    go_wp2
    go_ret
    exact ⟨by rw [HR.out, if_pos (by simp [mayStandB])]; rfl, hfin⟩
  · have h0' : (c == 0) = false := by simpa using h0
    by_cases hk : x1 = kindI c
    · have hk' : (x1 != kindI c) = false := by simp [hk]
      refine wp_region_class (C := Below W.heap.size W) (by kernel_rfl) (by kernel_rfl) hbl ?_
      repeat (go_big_quiet_step ((go_at_call 80; exact hK _)))
      refine wpQuiet_nil ?_
      rintro _ ⟨s, rfl⟩
      have hb1 := hba.trans (s.ok.mono (by omega))
      have kB1 := (s.ok.block _ hsz).trans kB
      have hs1 : w.heap.size < s.w.heap.size := Nat.lt_of_lt_of_le hsz s.ok.size
      clear hne hK a0 hba kB hsz hbl
      generalize s.w = W1 at *
      have c0 := (one_block kB1).1 0
      have c1 := (one_block kB1).1 1
      have c2 := (one_block kB1).1 2
      have HM := hide (show mayStandB c (x1, x2, x3) = (if x1 = 3 then x2 == 0 else x3.size == 0) by simp [mayStandB, h0, hk])
      have hemp := empty_size x3
      clear hk hk' h0 h0' kB1
      by_cases h3 : x1 = 3
      · subst h3
        by_cases h2 : x2 = 0
        · subst h2
          go_wp2_with fail
          refine (hEn _).mono ?_
          rintro e w2 ⟨rfl, hb2⟩
          have k0 := hb2.cell (p := ⟨w.heap.size, 0, none⟩) hs1
          rw [c0] at k0
          have k2 := hb2.cell (p := ⟨w.heap.size, 2, none⟩) hs1
          rw [c2] at k2
          have hb := hb1.trans (hb2.mono (by omega))
          clear c0 c1 c2 hb2 hb1 hNo hEn
          go_wp2
          go_loop [9] (fun i => ∃ k : Nat, k ≤ x3.size ∧ i = .int .i64 k ∧ Hid (∀ j, (hj : j < x3.size) → j < k → (x3[j].toNat : Int) ≠ 0)) (fun i => x3.size - (intOf i).toNat)
          case atStart => exact ⟨0, Nat.zero_le _, rfl, fun j hj h => by omega⟩
          case round =>
            obtain ⟨k, hkk, rfl, HJ⟩ := hrel
            by_cases hlt : k < x3.size
            · have hki : (k : Int) < (x3.size : Int) := by omega
              have hk0 : (0 : Int) ≤ (k : Int) := by omega
              by_cases hn : (x3[k].toNat : Int) = 0
              · have hn' : ((x3[k].toNat : Int) == 0) = true := by simpa using hn
                go_wp2
                go_ret
                exact ⟨by rw [HR.out, HM.out]; simp [nul_first hlt hn], hb⟩
              · have hn' : ((x3[k].toNat : Int) == 0) = false := by simpa using hn
                go_wp2
                go_round
                case rel => exact ⟨k + 1, by omega, by go_num, fun j hj h => if e : j = k then (by subst e; exact hn) else HJ.out j hj (by omega)⟩
                case measure => simp [intOf]; omega
            · obtain rfl : k = x3.size := by omega
              go_wp2
              go_ret
              exact ⟨by rw [HR.out, HM.out]; simp [nul_not fun j hj => HJ.out j hj hj], hb⟩
        · have h2' : (x2 != 0) = true := by simp [h2]
          go_wp2
          go_ret
          exact ⟨by rw [HR.out, HM.out]; simp [h2], hb1⟩
      · have h3' : (x1 == 3) = false := by simpa using h3
        have h3n : (x1 != 3) = true := by simp [h3]
        by_cases hz : x3.size = 0
        · obtain rfl := size_zero hz
          have hm : mayStandB c (x1, x2, ⟨#[]⟩) = true := by rw [HM.out, if_neg h3]; rfl
          by_cases h1 : x1 = 1
          · subst h1
            cases hnb : noneB x2 b
            · rw [hnb] at hNo
              go_wp2_with (go_at_call 79; refine (hNo _).mono ?_; rintro e w' ⟨rfl, rfl⟩)
              refine (hEn _).mono ?_
              rintro e w2 ⟨rfl, hb2⟩
              have k0 := hb2.cell (p := ⟨w.heap.size, 0, none⟩) hs1
              rw [c0] at k0
              have k2 := hb2.cell (p := ⟨w.heap.size, 2, none⟩) hs1
              rw [c2] at k2
              have hb := hb1.trans (hb2.mono (by omega))
              clear c0 c1 c2 hb2 hb1 hNo hEn
              go_wp2
              go_loop [9] (fun i => i = .int .i64 0) (fun i => 0)
              case atStart => rfl
              case round =>
                subst hrel
                go_wp2
                go_ret
                exact ⟨by rw [HR.out]; simp [hm, hnb, nulS_empty], hb⟩
            · rw [hnb] at hNo
              go_wp2_with (go_at_call 79; refine (hNo _).mono ?_; rintro e w' ⟨rfl, rfl⟩)
              go_ret
              exact ⟨by rw [HR.out]; simp [hm, hnb], hb1⟩
          · have h1' : (x1 == 1) = false := by simpa using h1
            by_cases h4 : x1 = 4
            · subst h4
              cases heb : enumB c x2
              · rw [heb] at hEn
                go_wp2_with fail
                refine (hEn _).mono ?_
                rintro e w2 ⟨rfl, hb2⟩
                have kk := hb2.cell (p := ⟨w.heap.size, 0, none⟩) hs1
                rw [c0] at kk
                have hb := hb1.trans (hb2.mono (by omega))
                clear c0 c1 c2 hb2
                go_wp2
                go_ret
                exact ⟨by rw [HR.out]; simp [hm, heb], hb⟩
              · rw [heb] at hEn
                go_wp2_with fail
                refine (hEn _).mono ?_
                rintro e w2 ⟨rfl, hb2⟩
                have k0 := hb2.cell (p := ⟨w.heap.size, 0, none⟩) hs1
                rw [c0] at k0
                have k2 := hb2.cell (p := ⟨w.heap.size, 2, none⟩) hs1
                rw [c2] at k2
                have hb := hb1.trans (hb2.mono (by omega))
                clear c0 c1 c2 hb2 hb1 hNo hEn
                go_wp2
                go_loop [9] (fun i => i = .int .i64 0) (fun i => 0)
                case atStart => rfl
                case round =>
                  subst hrel
                  go_wp2
                  go_ret
                  exact ⟨by rw [HR.out]; simp [hm, heb, nulS_empty], hb⟩
            · have h4' : (x1 == 4) = false := by simpa using h4
              go_wp2_with fail
              refine (hEn _).mono ?_
              rintro e w2 ⟨rfl, hb2⟩
              have k0 := hb2.cell (p := ⟨w.heap.size, 0, none⟩) hs1
              rw [c0] at k0
              have k2 := hb2.cell (p := ⟨w.heap.size, 2, none⟩) hs1
              rw [c2] at k2
              have hb := hb1.trans (hb2.mono (by omega))
              clear c0 c1 c2 hb2 hb1 hNo hEn
              go_wp2
              go_loop [9] (fun i => i = .int .i64 0) (fun i => 0)
              case atStart => rfl
              case round =>
                subst hrel
                go_wp2
                go_ret
                exact ⟨by rw [HR.out]; simp [hm, h1, h4, nulS_empty], hb⟩
        · have hz' : (x3.size == 0) = false := by simpa using hz
          go_wp2
          go_ret
          exact ⟨by rw [HR.out, HM.out]; simp [h3, hz], hb1⟩
    · have hk' : (x1 != kindI c) = true := by simp [hk]
      refine wp_region_class (C := Below W.heap.size W) (by kernel_rfl) (by kernel_rfl) hbl ?_
      repeat (go_big_quiet_step ((go_at_call 80; exact hK _)))
      refine wpQuiet_nil ?_
      rintro _ ⟨s, rfl⟩
      have hfin := hba.trans (s.ok.mono (by omega))
      clear hne hK a0 hNo hEn
      go_wp2
      go_ret
      exact ⟨by rw [HR.out, if_pos (by simp [mayStandB, hk])]; rfl, hfin⟩

end Go.Proofs.YteckmcgihbicfaaGreat

/-
  What Split of the document's answer returns, for every list of bytes: its error, and its words in new memory; nothing that was there has turned.
-/
namespace Go.Proofs.YteckmcgihbicfaaGreat
open Go.RowKit
set_option maxRecDepth 10000

theorem RefSplit.info : (Tryz.prog.info? 23).map (fun i => (i.zero, i.size, i.bytes)) = some (some (.int .u32 0), 1, 4) := by kernel_rfl

theorem refSplit_large (a : Option Addr) (n cap : Nat) (w : World) (h : 4194304 < n) :
    Calls Tryz.prog 23 #[.slice a n cap] w fun e w' => e = .returned (.tuple #[.slice none 0 0, .int .i64 4]) ∧ w = w' := by
  have h' : (4194304 : Int) < (n : Int) := by omega
  go_enter Tryz.func23, Tryz.ntmps23
  go_wp2
  go_ret2
  exact ⟨rfl, rfl⟩

theorem refSplit_odd (a : Option Addr) (n cap : Nat) (w : World) (h : ¬ 4194304 < n) (h2 : ¬ n % 4 = 0) :
    Calls Tryz.prog 23 #[.slice a n cap] w fun e w' => e = .returned (.tuple #[.slice none 0 0, .int .i64 10]) ∧ w = w' := by
  have h' : ¬ (4194304 : Int) < (n : Int) := by omega
  have h2' : (((n : Int) % 4) == 0) = false := by simp; omega
  go_enter Tryz.func23, Tryz.ntmps23
  go_wp2
  go_ret2
  exact ⟨rfl, rfl⟩

set_option maxHeartbeats 1000000 in
theorem refSplit_ok (a : Option Addr) (m cap : Nat) (zs : List Int) (w : World) (ha : View .u8 w a zs) (hl : zs.length = 4 * m) (hw : Within 256 zs) (h : ¬ 4194304 < 4 * m) :
    Calls Tryz.prog 23 #[.slice a (4 * m) cap] w fun e w' => e = .returned (.tuple #[.slice (some ⟨w.heap.size, 0, none⟩) m m, .int .i64 0]) ∧
      w'.ownsRow w.heap.size 23 1 (.slice (some ⟨w.heap.size, 0, none⟩) m m) m ((splitL zs).map (Value.int .u32)) ∧ Below w.heap.size w w' := by
  obtain ⟨i0, hi, hz0, hz1, hz2⟩ := info_parts RefSplit.info
  have HL : Hid (zs.length = 4 * m) := hl
  have HS : Hid ((splitL zs).length = m) := by rw [splitL_len, hl]; show 4 * m / 4 = m; omega
  clear hl
  have h' : ¬ (4194304 : Int) < 4 * (m : Int) := by omega
  go_enter Tryz.func23, Tryz.ntmps23
  go_wp2_with (at_make; refine wpList_make_full _ rfl _ _ 46 rfl w.heap.size 23 i0 (.int .u32 0) 1 Tryz.underlying46 hi hz0 hz1 _ _ _ _ m rfl rfl (by omega) (by omega) (by rw [hz2]; omega) (by unfold maxLen; omega) (Nat.le_refl _) ?_)
  intro w1 hown1 hgrow1
  have hb1 : Below w.heap.size w w1 := (Below.refl _ w).grown hgrow1 (Nat.le_refl _) (by simp)
  have hr1 := made_row (splitL zs) hown1
  clear hown1 hgrow1
  go_wp2
  go_loopw [5] (fun i wr => ∃ k : Nat, k ≤ m ∧ i = .int .i64 k ∧ wr.ownsRow w.heap.size 23 1 (.slice (some ⟨w.heap.size, 0, none⟩) m m) m ((filled (splitL zs) k m).map (Value.int .u32)) ∧ Below w.heap.size w wr)
    (fun i _ => m - (intOf i).toNat)
  case atStart => exact ⟨0, Nat.zero_le _, rfl, hr1, hb1⟩
  case round =>
    obtain ⟨k, hk, rfl, hown, hnx⟩ := hrel
    clear hr1 hb1
    by_cases hlt : k < m
    · obtain ⟨b, off, rfl, hbs, hc0⟩ := ha (4 * k) (by rw [HL.out]; omega)
      obtain ⟨b', off', e1, _, hc1⟩ := ha (4 * k + 1) (by rw [HL.out]; omega)
      simp at e1
      obtain ⟨rfl, rfl⟩ := e1
      obtain ⟨b', off', e1, _, hc2⟩ := ha (4 * k + 2) (by rw [HL.out]; omega)
      simp at e1
      obtain ⟨rfl, rfl⟩ := e1
      obtain ⟨b', off', e1, _, hc3⟩ := ha (4 * k + 3) (by rw [HL.out]; omega)
      simp at e1
      obtain ⟨rfl, rfl⟩ := e1
      have x0 := hw.at (k := 4 * k) (by rw [HL.out]; omega)
      have x1 := hw.at (k := 4 * k + 1) (by rw [HL.out]; omega)
      have x2 := hw.at (k := 4 * k + 2) (by rw [HL.out]; omega)
      have x3 := hw.at (k := 4 * k + 3) (by rw [HL.out]; omega)
      obtain ⟨d1, d2, d3⟩ := fill_step hown hlt (by rw [HS.out]; exact hlt)
      have HW : Hid (nth (splitL zs) k = nth zs (4 * k) + nth zs (4 * k + 1) * 256 + nth zs (4 * k + 2) * 65536 + nth zs (4 * k + 3) * 16777216) := nth_splitL zs k (by rw [HL.out]; omega)
      rw [HW.out] at d3
      have g0 := (hnx.cell (p := ⟨b, off + 4 * k, none⟩) hbs).trans hc0
      have g1 := (hnx.cell (p := ⟨b, off + (4 * k + 1), none⟩) hbs).trans hc1
      have g2 := (hnx.cell (p := ⟨b, off + (4 * k + 2), none⟩) hbs).trans hc2
      have g3 := (hnx.cell (p := ⟨b, off + (4 * k + 3), none⟩) hbs).trans hc3
      clear hc0 hc1 hc2 hc3 HW hown
      generalize nth zs (4 * k) = c0 at *
      generalize nth zs (4 * k + 1) = c1 at *
      generalize nth zs (4 * k + 2) = c2 at *
      generalize nth zs (4 * k + 3) = c3 at *
      obtain ⟨l0, u0⟩ := x0
      obtain ⟨l1, u1⟩ := x1
      obtain ⟨l2, u2⟩ := x2
      obtain ⟨l3, u3⟩ := x3
      have k0 : (0 : Int) ≤ 4 * (k : Int) := by omega
      have k1 : 4 * (k : Int) + 3 < 4 * (m : Int) := by omega
      have hki : (k : Int) < (m : Int) := by omega
      have hne := World.new_ne wr _ g0
      have D3 : Hid ((wr.setCell ⟨w.heap.size, k, none⟩ (.int .u32 (c0 + c1 * 256 + c2 * 65536 + c3 * 16777216))).ownsRow w.heap.size 23 1 (.slice (some ⟨w.heap.size, 0, none⟩) m m) m ((filled (splitL zs) (k + 1) m).map (Value.int .u32))) := d3
      clear d3 ha
      have i0' : IntKind.i64.wrap (4 * (k : Int)) = 4 * (k : Int) := by rw [IntKind.wrap_i64]; omega
      have i1' : IntKind.i64.wrap (4 * (k : Int) + 1) = 4 * (k : Int) + 1 := by rw [IntKind.wrap_i64]; omega
      have i2' : IntKind.i64.wrap (4 * (k : Int) + 2) = 4 * (k : Int) + 2 := by rw [IntKind.wrap_i64]; omega
      have i3' : IntKind.i64.wrap (4 * (k : Int) + 3) = 4 * (k : Int) + 3 := by rw [IntKind.wrap_i64]; omega
      have n0 : (4 * (k : Int)).toNat = 4 * k := by omega
      have n1 : (4 * (k : Int) + 1).toNat = 4 * k + 1 := by omega
      have n2 : (4 * (k : Int) + 2).toNat = 4 * k + 2 := by omega
      have n3 : (4 * (k : Int) + 3).toNat = 4 * k + 3 := by omega
      have p0 : 4 * (k : Int) < 4 * (m : Int) := by omega
      have p1 : 4 * (k : Int) + 1 < 4 * (m : Int) := by omega
      have p2 : 4 * (k : Int) + 2 < 4 * (m : Int) := by omega
      have q1 : 0 ≤ 4 * (k : Int) + 1 := by omega
      have q2 : 0 ≤ 4 * (k : Int) + 2 := by omega
      have q3 : 0 ≤ 4 * (k : Int) + 3 := by omega
      have v0 : IntKind.u32.wrap c0 = c0 := by rw [IntKind.wrap_u32']; omega
      have v1 : IntKind.u32.wrap c1 = c1 := by rw [IntKind.wrap_u32']; omega
      have v2 : IntKind.u32.wrap c2 = c2 := by rw [IntKind.wrap_u32']; omega
      have v3 : IntKind.u32.wrap c3 = c3 := by rw [IntKind.wrap_u32']; omega
      have y1 : IntKind.u32.wrap (256 * c1) = 256 * c1 := by rw [IntKind.wrap_u32']; omega
      have y2 : IntKind.u32.wrap (65536 * c2) = 65536 * c2 := by rw [IntKind.wrap_u32']; omega
      have y3 : IntKind.u32.wrap (16777216 * c3) = 16777216 * c3 := by rw [IntKind.wrap_u32']; omega
      have z1 : IntKind.u32.wrap (c0 + 256 * c1) = c0 + 256 * c1 := by rw [IntKind.wrap_u32']; omega
      have z2 : IntKind.u32.wrap (c0 + 256 * c1 + 65536 * c2) = c0 + 256 * c1 + 65536 * c2 := by rw [IntKind.wrap_u32']; omega
      have z3 : IntKind.u32.wrap (c0 + 256 * c1 + 65536 * c2 + 16777216 * c3) = c0 + 256 * c1 + 65536 * c2 + 16777216 * c3 := by rw [IntKind.wrap_u32']; omega
      have hfar : ∀ (W : World) (j o : Nat) (u : Value), (W.setCell ⟨w.heap.size, j, none⟩ u).cell? ⟨b, o, none⟩ = W.cell? ⟨b, o, none⟩ := fun W j o u => cell_far (by omega) j o u
      go_wp2
      go_region_held3 (fun w' => w'.cell? ⟨b, off + 4 * k, none⟩ = some (.int .u8 c0) ∧ w'.cell? ⟨b, off + (4 * k + 1), none⟩ = some (.int .u8 c1) ∧ w'.cell? ⟨b, off + (4 * k + 2), none⟩ = some (.int .u8 c2) ∧ w'.cell? ⟨b, off + (4 * k + 3), none⟩ = some (.int .u8 c3)) (go_keep) (fail)
      go_wp2
      go_roundw
      case rel =>
        have e : c0 + 256 * c1 + 65536 * c2 + 16777216 * c3 = c0 + c1 * 256 + c2 * 65536 + c3 * 16777216 := by omega
        exact ⟨k + 1, by omega, by go_num, by rw [e]; exact D3.out.drew, (hnx.setCell (Nat.le_refl _) _).drew⟩
      case measure => simp [intOf]; omega
    · go_wp2
      go_ret2
      obtain rfl : k = m := by omega
      rw [filled_whole _ _ HS.out] at hown
      exact ⟨rfl, hown, hnx⟩

theorem refSplit_any (a : Option Addr) (n cap : Nat) (zs : List Int) (w : World) (ha : View .u8 w a zs) (hl : zs.length = n) (hw : Within 256 zs) :
    Calls Tryz.prog 23 #[.slice a n cap] w fun e w' => ∃ ax m, e = .returned (.tuple #[.slice ax m m, .int .i64 (splitErr zs)]) ∧ (splitOut zs).length = m ∧ View .u32 w' ax (splitOut zs) ∧ NewAt w.heap.size ax ∧ Below w.heap.size w w' := by
  by_cases h : 4194304 < n
  · refine (refSplit_large a n cap w h).mono ?_
    rintro e w' ⟨rfl, rfl⟩
    rw [splitErr_large zs (by omega), splitOut_large zs (by omega)]
    exact ⟨none, 0, rfl, rfl, view_nil, newAt_none, Below.refl _ _⟩
  · by_cases h2 : n % 4 = 0
    · obtain ⟨m, rfl⟩ : ∃ m, n = 4 * m := ⟨n / 4, by omega⟩
      refine (refSplit_ok a m cap zs w ha hl hw h).mono ?_
      rintro e w' ⟨rfl, hown, hb⟩
      rw [splitErr_ok zs (by omega) (by omega), splitOut_ok zs (by omega) (by omega)]
      have hs : (splitL zs).length = m := by rw [splitL_len, hl]; omega
      exact ⟨_, m, rfl, hs, View.ofRow hown hs, newAt_mk (Nat.le_refl _), hb⟩
    · refine (refSplit_odd a n cap w h h2).mono ?_
      rintro e w' ⟨rfl, rfl⟩
      rw [splitErr_odd zs (by omega) (by omega), splitOut_odd zs (by omega) (by omega)]
      exact ⟨none, 0, rfl, rfl, view_nil, newAt_none, Below.refl _ _⟩

end Go.Proofs.YteckmcgihbicfaaGreat

/-
  What OfText of the document's answer returns, for every string: its error, or its words in new memory; nothing that was there has turned.
-/
namespace Go.Proofs.YteckmcgihbicfaaGreat
open Go.RowKit
set_option maxRecDepth 10000

theorem RefOfText.info : (Tryz.prog.info? 5).map (fun i => (i.zero, i.size, i.bytes)) = some (some (.int .u8 0), 1, 1) := by kernel_rfl

theorem refRoom_any (s : ByteArray) (w : World) (hs : s.size ≤ 140737488351232) :
    Calls Tryz.prog 70 #[.string s] w fun e w' => e = .returned (.int .i64 ((s.size / 4 + 1 : Nat) : Int)) ∧ w = w' := by
  go_enter Tryz.func70, Tryz.ntmps70
  go_wp2
  go_ret
  exact ⟨ret_int (by omega), rfl⟩

theorem refOfText_nul (s : ByteArray) (w : World) (hs : s.size ≤ 140737488351232) (N : Nat) (hk : N < s.size) (h : nth (strI s) N = 0) :
    Calls Tryz.prog 40 #[.string s] w fun e w' => e = .returned (.tuple #[.slice none 0 0, .int .i64 13]) ∧ w = w' := by
  have H : Hid (nth (strI s) N = 0) := h
  clear h
  go_enter Tryz.func40, Tryz.ntmps40
  go_wp2
  go_loop [4] (fun i => ∃ k : Nat, k ≤ N ∧ i = .int .i64 k) (fun i => s.size - (intOf i).toNat)
  case atStart => exact ⟨0, Nat.zero_le _, rfl⟩
  case round =>
    obtain ⟨k, hkN, rfl⟩ := hrel
    have hlt : k < s.size := by omega
    have HK : Hid (nth (strI s) k = (s[k].toNat : Int)) := nth_strI s k hlt
    by_cases hz : s[k].toNat = 0
    · have hz' : ((s[k].toNat : Int) == 0) = true := by simp [hz]
      go_wp2
      go_ret2
      exact ⟨rfl, rfl⟩
    · have hz' : ((s[k].toNat : Int) == 0) = false := by simp; exact hz
      have hne : k ≠ N := fun e => by
        subst e
        have h1 := H.out
        rw [HK.out] at h1
        omega
      clear hz
      go_wp2
      go_round
      case rel => exact ⟨k + 1, by omega, by go_num⟩
      case measure => simp [intOf]; omega

theorem refOfText_large (s : ByteArray) (w : World) (hs : s.size ≤ 140737488351232) (h : NoNul s) (hl : 65535 < s.size / 4 + 1) :
    Calls Tryz.prog 40 #[.string s] w fun e w' => e = .returned (.tuple #[.slice none 0 0, .int .i64 4]) ∧ w = w' := by
  have H : Hid (NoNul s) := h
  have hR := fun wx => refRoom_any s wx hs
  have hl' : (65535 : Int) < ((s.size / 4 + 1 : Nat) : Int) := by omega
  generalize s.size / 4 + 1 = m at hR hl'
  clear h hl
  go_enter Tryz.func40, Tryz.ntmps40
  go_wp2
  go_loop [4] (fun i => ∃ k : Nat, k ≤ s.size ∧ i = .int .i64 k) (fun i => s.size - (intOf i).toNat)
  case atStart => exact ⟨0, Nat.zero_le _, rfl⟩
  case round =>
    obtain ⟨k, hk, rfl⟩ := hrel
    by_cases hlt : k < s.size
    · have hz' : ((s[k].toNat : Int) == 0) = false := by
        have := H.out k hlt
        rw [nth_strI s k hlt] at this
        simpa using this
      go_wp2
      go_round
      case rel => exact ⟨k + 1, by omega, by go_num⟩
      case measure => simp [intOf]; omega
    · go_wp2_with (go_at_call 70; refine (hR _).mono ?_; rintro e w' ⟨rfl, rfl⟩)
      go_ret2
      exact ⟨rfl, rfl⟩

set_option maxHeartbeats 1000000 in
theorem refOfText_new (s : ByteArray) (w : World) (h : NoNul s) (hl : s.size / 4 + 1 ≤ 65535) :
    Calls Tryz.prog 40 #[.string s] w fun e w' => ∃ ax m, e = .returned (.tuple #[.slice ax m m, .int .i64 0]) ∧ (textW s).length = m ∧ View .u32 w' ax (textW s) ∧ NewAt w.heap.size ax ∧ Below w.heap.size w w' := by
  obtain ⟨i0, hi, hz0, hz1, hz2⟩ := info_parts RefOfText.info
  have H : Hid (NoNul s) := h
  have hR := fun wx => refRoom_any s wx (by omega)
  have HW : Hid (textW s = splitL (padI s)) := rfl
  have HP : Hid (padI s = filled (strI s) s.size (4 * (s.size / 4 + 1))) := rfl
  have HPL : Hid ((padI s).length = 4 * (s.size / 4 + 1)) := padI_len s
  obtain ⟨m, hm⟩ : ∃ m, m = s.size / 4 + 1 := ⟨_, rfl⟩
  rw [← hm] at HP HPL hR
  have hl' : ¬ (65535 : Int) < (m : Int) := by omega
  have hsz : s.size < 4 * m := by omega
  have hm2 : m ≤ 65535 := by omega
  clear h hl hm
  go_enter Tryz.func40, Tryz.ntmps40
  go_wp2
  go_loop [4] (fun i => ∃ k : Nat, k ≤ s.size ∧ i = .int .i64 k) (fun i => s.size - (intOf i).toNat)
  case atStart => exact ⟨0, Nat.zero_le _, rfl⟩
  case round =>
    obtain ⟨k, hk, rfl⟩ := hrel
    by_cases hlt : k < s.size
    · have hz' : ((s[k].toNat : Int) == 0) = false := by
        have := H.out k hlt
        rw [nth_strI s k hlt] at this
        simpa using this
      go_wp2
      go_round
      case rel => exact ⟨k + 1, by omega, by go_num⟩
      case measure => simp [intOf]; omega
    · clear hk
      go_wp2_with (first | (go_at_call 70; refine (hR _).mono ?_; rintro e w' ⟨rfl, rfl⟩) | (at_make; refine wpList_make_full _ rfl _ _ 22 rfl w.heap.size 5 i0 (.int .u8 0) 1 Tryz.underlying22 hi hz0 hz1 _ _ _ _ (4 * m) rfl rfl (by omega) (by omega) (by rw [hz2]; omega) (by unfold maxLen; omega) (Nat.le_refl _) ?_))
      intro w1 hown1 hgrow1
      have hb1 : Below w.heap.size w w1 := (Below.refl _ w).grown hgrow1 (Nat.le_refl _) (by simp)
      have hr1 := made_row (strI s) hown1
      clear hown1 hgrow1
      go_wp2
      go_loopw [6] (fun i wr => ∃ j : Nat, j ≤ s.size ∧ i = .int .i64 j ∧ wr.ownsRow w.heap.size 5 1 (.slice (some ⟨w.heap.size, 0, none⟩) (4 * m) (4 * m)) (4 * m) ((filled (strI s) j (4 * m)).map (Value.int .u8)) ∧ Below w.heap.size w wr)
        (fun i _ => s.size - (intOf i).toNat)
      case atStart => exact ⟨0, Nat.zero_le _, rfl, hr1, hb1⟩
      case round =>
        obtain ⟨j, hj, rfl, hown, hnx⟩ := hrel
        clear hr1 hb1
        by_cases hjl : j < s.size
        · obtain ⟨d1, d2, d3⟩ := fill_step hown (by omega) (by rw [strI_len]; exact hjl)
          rw [nth_strI s j hjl] at d3
          clear hown
          go_wp2
          go_roundw
          case rel => exact ⟨j + 1, by omega, by go_num, d3, hnx.setCell (Nat.le_refl _) _⟩
          case measure => simp [intOf]; omega
        · obtain rfl : j = s.size := by omega
          rw [← HP.out] at hown
          have s1 := hnx.size
          go_wp2_with fail
          refine (refSplit_any _ (4 * m) (4 * m) (padI s) wr (View.ofRow hown HPL.out) HPL.out (padI_within s)).mono ?_
          rw [splitErr_ok _ (by rw [HPL.out]; omega) (by rw [HPL.out]; omega), splitOut_ok _ (by rw [HPL.out]; omega) (by rw [HPL.out]; omega), ← HW.out]
          rintro e w3 ⟨ax, m', rfl, hm', hvx, hnew, hb3⟩
          go_wp2
          go_ret2
          exact ⟨ax, m', rfl, hm', hvx, fun b o s hy => Nat.le_trans s1 (hnew b o s hy), hnx.trans (hb3.mono s1)⟩

theorem refOfText_ok (s : ByteArray) (w : World) (h : NoNul s) (hl : s.size / 4 + 1 ≤ 65535) :
    Calls Tryz.prog 40 #[.string s] w fun e w' => ∃ ax m, e = .returned (.tuple #[.slice ax m m, .int .i64 0]) ∧ (textW s).length = m ∧ View .u32 w' ax (textW s) ∧ Below w.heap.size w w' :=
  (refOfText_new s w h hl).mono fun _ _ ⟨ax, m, h1, h2, h3, _, h5⟩ => ⟨ax, m, h1, h2, h3, h5⟩

end Go.Proofs.YteckmcgihbicfaaGreat
