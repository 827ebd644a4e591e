/-
  Texts laid together in one: LayoutParts.
-/
import Derived.WalkSpells
import Derived.WalkMore
import Derived.BigRegion
import Derived.Deep.RegionWith
import Derived.Deep.MidRow
import Derived.Test.YtjckgnpbjekhbaaProg
import Derived.Test.YtjckgnpbjekhbaaB24
/-
  Parts of the package layout.
-/
namespace Go.Proofs.Ytjckgnpbjekhbaa
open Go.RowKit
set_option linter.unusedVariables false
set_option linter.unusedSimpArgs false
set_option maxRecDepth 10000

/-- The places of the parts, one behind the other. -/
def partsF (b : Int) (l : List InstT) (i : Nat) : Int := if (layE b l).1 ≠ 0 then 0 else cntP l ((i + 1) / 2) l.length
def partsV (f : Nat → Int) : Value := .agg #[.int .i64 (f 0), .int .i64 (f 1), .int .i64 (f 2), .int .i64 (f 3), .int .i64 (f 4), .int .i64 (f 5), .int .i64 (f 6), .int .i64 (f 7), .int .i64 (f 8), .int .i64 (f 9), .int .i64 (f 10), .int .i64 (f 11), .int .i64 (f 12), .int .i64 (f 13), .int .i64 (f 14), .int .i64 (f 15), .int .i64 (f 16), .int .i64 (f 17), .int .i64 (f 18), .int .i64 (f 19)]
theorem partsV_congr {f g : Nat → Int} (h : ∀ i, i < 20 → f i = g i) : partsV f = partsV g := by
  unfold partsV
  rw [h 0 (by omega), h 1 (by omega), h 2 (by omega), h 3 (by omega), h 4 (by omega), h 5 (by omega), h 6 (by omega), h 7 (by omega), h 8 (by omega), h 9 (by omega), h 10 (by omega), h 11 (by omega), h 12 (by omega), h 13 (by omega), h 14 (by omega), h 15 (by omega), h 16 (by omega), h 17 (by omega), h 18 (by omega), h 19 (by omega)]
theorem range_mid {w : World} {b t : Nat} {cs : List Value} {fr : Nat × Nat} (h : w.heap[b]? = some (.cells cs.toArray t fr)) (o n : Nat) : w.rangeAt b o ((cs.drop o).take n) := fun j v hv => by
  rw [List.getElem?_take] at hv
  split at hv
  · rw [List.getElem?_drop] at hv
    simp [World.cell?, h, hv]
  · cases hv
theorem yieldsC_load {P : Program} {ops : Array Oper} {C : World → Prop} {o : Oper} {a : Act} (hw : Region.wanted o (yielded ops a.tmps) = true) (ty : TypeId) (x : Operand) (ho : o.op = .load ty x)
    (b off : Nat) (hx : a.eval x = .pointer (some ⟨b, off, none⟩)) (cs : List Value) (d : TypeDesc) (hS : ∀ w, C w → w.rangeAt b off cs)
    (hu : P.underlying ty = some d) (hd : d.isRow = true) (hi : (P.info? ty).map (·.size) = some cs.length) : YieldsC P ops C o (.agg cs.toArray) a :=
  .inl ⟨hw, fun w hw' => by
    unfold execOp
    simp only [ho, hx, Instr.loadAt, Instr.sureAddr, Sem.run_bind, Sem.run_pure, Result.andThen_ok, run_loadVar_mid w b off ty cs d (hS w hw') hu hd hi]⟩

set_option maxHeartbeats 8000000 in
theorem layParts_any (gen bnd : Int) (a : Option Addr) (n c : Nat) (l : List InstT) (w : World) (hv : InstsV w a l) (hok : InstsOk l) (hl : l.length = n) (hn : 40 * n ≤ 140737488351232) (g0 : 0 ≤ gen) (g1 : gen < 4294967296) (b0 : 0 ≤ bnd) (b1 : bnd < 4294967296) :
    Calls Try.prog 27 #[modV gen bnd a n c] w fun e w' => e = .returned (.tuple #[partsV (partsF bnd l), .agg #[.int .i64 (layE bnd l).1, .int .i64 (layE bnd l).2]]) ∧ Below w.heap.size w w' := by
  have hb0 : Below w.heap.size w (((w.alloc (.cells #[.int .u32 gen, .int .u32 bnd, .slice a n c] 25)).alloc (.cells #[.int .i64 0, .int .i64 0, .int .i64 0, .int .i64 0, .int .i64 0, .int .i64 0, .int .i64 0, .int .i64 0, .int .i64 0, .int .i64 0, .int .i64 0, .int .i64 0, .int .i64 0, .int .i64 0, .int .i64 0, .int .i64 0, .int .i64 0, .int .i64 0, .int .i64 0, .int .i64 0] 61)).alloc (.cells #[.int .i64 0, .int .i64 0] 31)) := (((Below.refl _ w).alloc (Nat.le_refl _) _).alloc (by simp) _).alloc (by simp; omega) _
  have hC := walkOver_any gen bnd a n c l _ (hv.below hb0) hok hl hn g0 g1 b0 b1
  have HZB : Hid ((((w.alloc (.cells #[.int .u32 gen, .int .u32 bnd, .slice a n c] 25)).alloc (.cells #[.int .i64 0, .int .i64 0, .int .i64 0, .int .i64 0, .int .i64 0, .int .i64 0, .int .i64 0, .int .i64 0, .int .i64 0, .int .i64 0, .int .i64 0, .int .i64 0, .int .i64 0, .int .i64 0, .int .i64 0, .int .i64 0, .int .i64 0, .int .i64 0, .int .i64 0, .int .i64 0] 61)).alloc (.cells #[.int .i64 0, .int .i64 0] 31)).heap[w.heap.size + 1]? = some (.cells #[.int .i64 0, .int .i64 0, .int .i64 0, .int .i64 0, .int .i64 0, .int .i64 0, .int .i64 0, .int .i64 0, .int .i64 0, .int .i64 0, .int .i64 0, .int .i64 0, .int .i64 0, .int .i64 0, .int .i64 0, .int .i64 0, .int .i64 0, .int .i64 0, .int .i64 0, .int .i64 0] 61 (0, 0))) := by
    have := heap_alloc_new (w.alloc (.cells #[.int .u32 gen, .int .u32 bnd, .slice a n c] 25)) (.cells #[.int .i64 0, .int .i64 0, .int .i64 0, .int .i64 0, .int .i64 0, .int .i64 0, .int .i64 0, .int .i64 0, .int .i64 0, .int .i64 0, .int .i64 0, .int .i64 0, .int .i64 0, .int .i64 0, .int .i64 0, .int .i64 0, .int .i64 0, .int .i64 0, .int .i64 0, .int .i64 0] 61)
    rw [World.size_alloc] at this
    exact (Below.heap_alloc _ _ _ (by simp)).trans this
  have HSB : Hid ((((w.alloc (.cells #[.int .u32 gen, .int .u32 bnd, .slice a n c] 25)).alloc (.cells #[.int .i64 0, .int .i64 0, .int .i64 0, .int .i64 0, .int .i64 0, .int .i64 0, .int .i64 0, .int .i64 0, .int .i64 0, .int .i64 0, .int .i64 0, .int .i64 0, .int .i64 0, .int .i64 0, .int .i64 0, .int .i64 0, .int .i64 0, .int .i64 0, .int .i64 0, .int .i64 0] 61)).alloc (.cells #[.int .i64 0, .int .i64 0] 31)).heap[w.heap.size + 2]? = some (.cells #[.int .i64 0, .int .i64 0] 31 (0, 0))) := by
    have := heap_alloc_new ((w.alloc (.cells #[.int .u32 gen, .int .u32 bnd, .slice a n c] 25)).alloc (.cells #[.int .i64 0, .int .i64 0, .int .i64 0, .int .i64 0, .int .i64 0, .int .i64 0, .int .i64 0, .int .i64 0, .int .i64 0, .int .i64 0, .int .i64 0, .int .i64 0, .int .i64 0, .int .i64 0, .int .i64 0, .int .i64 0, .int .i64 0, .int .i64 0, .int .i64 0, .int .i64 0] 61)) (.cells #[.int .i64 0, .int .i64 0] 31)
    rw [World.size_alloc, World.size_alloc] at this
    exact this
  have HLT : Hid (w.heap.size + 2 < (((w.alloc (.cells #[.int .u32 gen, .int .u32 bnd, .slice a n c] 25)).alloc (.cells #[.int .i64 0, .int .i64 0, .int .i64 0, .int .i64 0, .int .i64 0, .int .i64 0, .int .i64 0, .int .i64 0, .int .i64 0, .int .i64 0, .int .i64 0, .int .i64 0, .int .i64 0, .int .i64 0, .int .i64 0, .int .i64 0, .int .i64 0, .int .i64 0, .int .i64 0, .int .i64 0] 61)).alloc (.cells #[.int .i64 0, .int .i64 0] 31)).heap.size) := by show _ < _; simp
  have HB0 := hide hb0
  unfold WalkQ at hC
  have HPF : Hid (∀ ps : Nat → Int, ((layE bnd l).1 ≠ 0 ∧ (∀ i, ps i = 0) ∨ (layE bnd l).1 = 0 ∧ SpansE l ps) → partsV ps = partsV (partsF bnd l)) := fun ps h => partsV_congr fun i hi => by
    unfold partsF
    rcases h with ⟨h1, h2⟩ | ⟨h1, h2⟩
    · rw [if_pos h1]; exact h2 i
    · rw [if_neg (by simpa using h1)]; exact h2 i hi
  have HQ : Hid (∀ e w', (∃ ps : Nat → Int, ((layE bnd l).1 ≠ 0 ∧ (∀ i, ps i = 0) ∨ (layE bnd l).1 = 0 ∧ SpansE l ps) ∧ e = .returned (.tuple #[partsV ps, .agg #[.int .i64 (layE bnd l).1, .int .i64 (layE bnd l).2]]) ∧ Below w.heap.size w w') → e = Ending.returned (.tuple #[partsV (partsF bnd l), .agg #[.int .i64 (layE bnd l).1, .int .i64 (layE bnd l).2]]) ∧ Below w.heap.size w w') := fun e w' ⟨ps, h1, h2, h3⟩ => ⟨by rw [h2, HPF.out ps h1], h3⟩
  have HRET : Hid (∀ (a' : Act) (Z : World) (ps : Nat → Int), slot a'.tmps 2 = .pointer (some ⟨w.heap.size + 1, 0, none⟩) → slot a'.tmps 3 = .pointer (some ⟨w.heap.size + 2, 0, none⟩) → a'.defers = [] → Z.heap[w.heap.size + 1]? = some (.cells #[.int .i64 (ps 0), .int .i64 (ps 1), .int .i64 (ps 2), .int .i64 (ps 3), .int .i64 (ps 4), .int .i64 (ps 5), .int .i64 (ps 6), .int .i64 (ps 7), .int .i64 (ps 8), .int .i64 (ps 9), .int .i64 (ps 10), .int .i64 (ps 11), .int .i64 (ps 12), .int .i64 (ps 13), .int .i64 (ps 14), .int .i64 (ps 15), .int .i64 (ps 16), .int .i64 (ps 17), .int .i64 (ps 18), .int .i64 (ps 19)] 61 (0, 0)) → Z.heap[w.heap.size + 2]? = some (.cells #[.int .i64 (layE bnd l).1, .int .i64 (layE bnd l).2] 31 (0, 0)) → Below w.heap.size w Z → ((layE bnd l).1 ≠ 0 ∧ (∀ i, ps i = 0) ∨ (layE bnd l).1 = 0 ∧ SpansE l ps) →
      bodyPost Try.prog Try.f27 (fun e w' => e = .returned (.tuple #[partsV (partsF bnd l), .agg #[.int .i64 (layE bnd l).1, .int .i64 (layE bnd l).2]]) ∧ Below w.heap.size w w') .ret a' Z) := by
    intro a' Z ps q2 q3 q4 q5 q6 q7 q8
    refine bodyPost_ret (v := .tuple #[partsV ps, .agg #[.int .i64 (layE bnd l).1, .int .i64 (layE bnd l).2]]) ?_ q4 (HQ.out _ _ ⟨ps, q8, rfl, q7⟩)
    have r5 := run_loadVar_mid (P := Try.prog) Z (w.heap.size + 1) 0 61 [.int .i64 (ps 0), .int .i64 (ps 1), .int .i64 (ps 2), .int .i64 (ps 3), .int .i64 (ps 4), .int .i64 (ps 5), .int .i64 (ps 6), .int .i64 (ps 7), .int .i64 (ps 8), .int .i64 (ps 9), .int .i64 (ps 10), .int .i64 (ps 11), .int .i64 (ps 12), .int .i64 (ps 13), .int .i64 (ps 14), .int .i64 (ps 15), .int .i64 (ps 16), .int .i64 (ps 17), .int .i64 (ps 18), .int .i64 (ps 19)] _ (range_of_block q5) Try.underlying61 rfl (by kernel_rfl)
    have r6 := run_loadVar_mid (P := Try.prog) Z (w.heap.size + 2) 0 31 [.int .i64 (layE bnd l).1, .int .i64 (layE bnd l).2] _ (range_of_block q6) Try.underlying31 rfl (by kernel_rfl)
    have hG2 : a'.tmps.getD 2 undef = .pointer (some ⟨w.heap.size + 1, 0, none⟩) := q2
    have hG3 : a'.tmps.getD 3 undef = .pointer (some ⟨w.heap.size + 2, 0, none⟩) := q3
    simp only [results, Try.results27, List.mapM_toArray, List.mapM_cons, List.mapM_nil, hG2, hG3, asAddr, Sem.run_bind, Sem.run_pure, Result.andThen_ok, bind_assoc, pure_bind, Sem.run_map, map_pure, r5, r6]
    rfl
  generalize partsF bnd l = PFF at *
  generalize layE bnd l = L at *
  obtain ⟨e1, e2⟩ := L
  unfold modV at *
  clear hb0 hv hok hl HPF HQ
  go_enter Try.func27, Try.ntmps27
  go_wp2_with fail
  generalize ((w.alloc (.cells #[.int .u32 gen, .int .u32 bnd, .slice a n c] 25)).alloc (.cells #[.int .i64 0, .int .i64 0, .int .i64 0, .int .i64 0, .int .i64 0, .int .i64 0, .int .i64 0, .int .i64 0, .int .i64 0, .int .i64 0, .int .i64 0, .int .i64 0, .int .i64 0, .int .i64 0, .int .i64 0, .int .i64 0, .int .i64 0, .int .i64 0, .int .i64 0, .int .i64 0] 61)).alloc (.cells #[.int .i64 0, .int .i64 0] 31) = W0 at *
  refine hC.mono ?_
  rintro e w1 ⟨ins, fv, ps, k, pt, kd, rfl, hb1, hone, hfs⟩
  have HFS : Hid (e1 ≠ 0 ∧ (∀ i, ps i = 0) ∨ e1 = 0 ∧ SpansE l ps) := by
    rcases hfs with ⟨h1, _, h2⟩ | ⟨h1, h2, _⟩
    · exact .inl ⟨h1, h2⟩
    · exact .inr ⟨h1, h2⟩
  clear hC hfs
  unfold walkV
  obtain ⟨k1, k2, k3, k4, k5, _⟩ := kept_walk w W0 w1 HB0.out hb1 ins fv ps k pt kd 0 0
  have HK1 := hide k1
  have HK2 := hide k2
  have HK3 := hide k3
  have HK4 := hide k4
  have HK5 := hide k5
  have hw1 : W0.heap.size ≤ w1.heap.size := hb1.size
  clear k1 k2 k3 k4 k5 hb1
  simp only
  go_wp2_with (with_reducible refine stopS 89 ?_)
  refine wpList_store_mid rfl 89 (.tmp 4) (.tmp 9) rfl w1.heap.size 0 #[ins, .int .i64 (ps 0), .int .i64 (ps 1), .int .i64 (ps 2), .int .i64 (ps 3), .int .i64 (ps 4), .int .i64 (ps 5), .int .i64 (ps 6), .int .i64 (ps 7), .int .i64 (ps 8), .int .i64 (ps 9), .int .i64 (ps 10), .int .i64 (ps 11), .int .i64 (ps 12), .int .i64 (ps 13), .int .i64 (ps 14), .int .i64 (ps 15), .int .i64 (ps 16), .int .i64 (ps 17), .int .i64 (ps 18), .int .i64 (ps 19), fv, .int .i64 k, .int .u8 pt, .int .u16 kd] rfl rfl HK1.out (by kernel_rfl) (by simp [hone.1, hone.2]; simp [Value.oneCell']) ?_
  simp only [Act.put]
  generalize ((w1.alloc (.cells #[.slice none 0 0, .int .i64 0, .int .i64 0, .int .i64 0, .int .i64 0, .int .i64 0, .int .i64 0, .int .i64 0, .int .i64 0, .int .i64 0, .int .i64 0, .int .i64 0, .int .i64 0, .int .i64 0, .int .i64 0, .int .i64 0, .int .i64 0, .int .i64 0, .int .i64 0, .int .i64 0, .int .i64 0, .slice none 0 0, .int .i64 0, .int .u8 0, .int .u16 0] 89)).alloc (.cells #[.int .i64 0, .int .i64 0] 31)).setCells w1.heap.size 0 [ins, .int .i64 (ps 0), .int .i64 (ps 1), .int .i64 (ps 2), .int .i64 (ps 3), .int .i64 (ps 4), .int .i64 (ps 5), .int .i64 (ps 6), .int .i64 (ps 7), .int .i64 (ps 8), .int .i64 (ps 9), .int .i64 (ps 10), .int .i64 (ps 11), .int .i64 (ps 12), .int .i64 (ps 13), .int .i64 (ps 14), .int .i64 (ps 15), .int .i64 (ps 16), .int .i64 (ps 17), .int .i64 (ps 18), .int .i64 (ps 19), fv, .int .i64 k, .int .u8 pt, .int .u16 kd] = X at *
  have hl0 := HLT.out
  have hlx := HK5.out
  have ht3 := there_of_block HK3.out 2 rfl
  refine wpList_store_mid rfl 31 (.tmp 5) (.tmp 10) rfl (w1.heap.size + 1) 0 #[.int .i64 e1, .int .i64 e2] rfl rfl ht3 (by kernel_rfl) (by simp [Value.oneCell']) ?_
  simp only [Act.put]
  have hgx := setCells_grown (w1.heap.size + 1) [.int .i64 e1, .int .i64 e2] 0 X
  have HY1 : Hid ((X.setCells (w1.heap.size + 1) 0 [.int .i64 e1, .int .i64 e2]).heap[w1.heap.size]? = some (.cells #[ins, .int .i64 (ps 0), .int .i64 (ps 1), .int .i64 (ps 2), .int .i64 (ps 3), .int .i64 (ps 4), .int .i64 (ps 5), .int .i64 (ps 6), .int .i64 (ps 7), .int .i64 (ps 8), .int .i64 (ps 9), .int .i64 (ps 10), .int .i64 (ps 11), .int .i64 (ps 12), .int .i64 (ps 13), .int .i64 (ps 14), .int .i64 (ps 15), .int .i64 (ps 16), .int .i64 (ps 17), .int .i64 (ps 18), .int .i64 (ps 19), fv, .int .i64 k, .int .u8 pt, .int .u16 kd] 89 (0, 0))) := (hgx.block _ (by omega) (by simp)).trans HK2.out
  have HY2 := hide (setCells_all [.int .i64 e1, .int .i64 e2] HK3.out rfl)
  have HY3 := hide (below_grown HK4.out hgx (fun g e => by simp at e; omega))
  have HY4 : Hid (w1.heap.size + 1 < (X.setCells (w1.heap.size + 1) 0 [.int .i64 e1, .int .i64 e2]).heap.size) := Nat.lt_of_lt_of_le hlx hgx.size
  clear hgx ht3 HK1 HK2 HK3 HK4 HK5 hlx hone
  generalize X.setCells (w1.heap.size + 1) 0 [.int .i64 e1, .int .i64 e2] = Y at *
  go_wp2_with fail
  have kz := (HY3.out.block (w.heap.size + 1) (by omega)).trans HZB.out
  have ks := (HY3.out.block (w.heap.size + 2) (by omega)).trans HSB.out
  have hsz : w.heap.size + 2 < Y.heap.size := by have := HY3.out.size; omega
  have hly := HY4.out
  have hgy1 := setCells_grown (w.heap.size + 1) [.int .i64 (ps 0), .int .i64 (ps 1), .int .i64 (ps 2), .int .i64 (ps 3), .int .i64 (ps 4), .int .i64 (ps 5), .int .i64 (ps 6), .int .i64 (ps 7), .int .i64 (ps 8), .int .i64 (ps 9), .int .i64 (ps 10), .int .i64 (ps 11), .int .i64 (ps 12), .int .i64 (ps 13), .int .i64 (ps 14), .int .i64 (ps 15), .int .i64 (ps 16), .int .i64 (ps 17), .int .i64 (ps 18), .int .i64 (ps 19)] 0 Y.drew
  have hp1 := setCells_all (w := Y.drew) [.int .i64 (ps 0), .int .i64 (ps 1), .int .i64 (ps 2), .int .i64 (ps 3), .int .i64 (ps 4), .int .i64 (ps 5), .int .i64 (ps 6), .int .i64 (ps 7), .int .i64 (ps 8), .int .i64 (ps 9), .int .i64 (ps 10), .int .i64 (ps 11), .int .i64 (ps 12), .int .i64 (ps 13), .int .i64 (ps 14), .int .i64 (ps 15), .int .i64 (ps 16), .int .i64 (ps 17), .int .i64 (ps 18), .int .i64 (ps 19)] kz rfl
  have hgy2 := setCells_grown (w.heap.size + 2) [.int .i64 e1, .int .i64 e2] 0 (Y.drew.setCells (w.heap.size + 1) 0 [.int .i64 (ps 0), .int .i64 (ps 1), .int .i64 (ps 2), .int .i64 (ps 3), .int .i64 (ps 4), .int .i64 (ps 5), .int .i64 (ps 6), .int .i64 (ps 7), .int .i64 (ps 8), .int .i64 (ps 9), .int .i64 (ps 10), .int .i64 (ps 11), .int .i64 (ps 12), .int .i64 (ps 13), .int .i64 (ps 14), .int .i64 (ps 15), .int .i64 (ps 16), .int .i64 (ps 17), .int .i64 (ps 18), .int .i64 (ps 19)])
  have ks2 := (hgy1.block (w.heap.size + 2) hsz (by simp)).trans ks
  have hp2 := setCells_all (w := Y.drew.setCells (w.heap.size + 1) 0 [.int .i64 (ps 0), .int .i64 (ps 1), .int .i64 (ps 2), .int .i64 (ps 3), .int .i64 (ps 4), .int .i64 (ps 5), .int .i64 (ps 6), .int .i64 (ps 7), .int .i64 (ps 8), .int .i64 (ps 9), .int .i64 (ps 10), .int .i64 (ps 11), .int .i64 (ps 12), .int .i64 (ps 13), .int .i64 (ps 14), .int .i64 (ps 15), .int .i64 (ps 16), .int .i64 (ps 17), .int .i64 (ps 18), .int .i64 (ps 19)]) [.int .i64 e1, .int .i64 e2] ks2 rfl
  have HP1 : Hid (((Y.drew.setCells (w.heap.size + 1) 0 [.int .i64 (ps 0), .int .i64 (ps 1), .int .i64 (ps 2), .int .i64 (ps 3), .int .i64 (ps 4), .int .i64 (ps 5), .int .i64 (ps 6), .int .i64 (ps 7), .int .i64 (ps 8), .int .i64 (ps 9), .int .i64 (ps 10), .int .i64 (ps 11), .int .i64 (ps 12), .int .i64 (ps 13), .int .i64 (ps 14), .int .i64 (ps 15), .int .i64 (ps 16), .int .i64 (ps 17), .int .i64 (ps 18), .int .i64 (ps 19)]).setCells (w.heap.size + 2) 0 [.int .i64 e1, .int .i64 e2]).heap[w.heap.size + 1]? = some (.cells #[.int .i64 (ps 0), .int .i64 (ps 1), .int .i64 (ps 2), .int .i64 (ps 3), .int .i64 (ps 4), .int .i64 (ps 5), .int .i64 (ps 6), .int .i64 (ps 7), .int .i64 (ps 8), .int .i64 (ps 9), .int .i64 (ps 10), .int .i64 (ps 11), .int .i64 (ps 12), .int .i64 (ps 13), .int .i64 (ps 14), .int .i64 (ps 15), .int .i64 (ps 16), .int .i64 (ps 17), .int .i64 (ps 18), .int .i64 (ps 19)] 61 (0, 0))) := (hgy2.block (w.heap.size + 1) (by have h2 := hgy1.size; have h3 : Y.drew.heap.size = Y.heap.size := rfl; omega) (by simp)).trans hp1
  have HP2 := hide hp2
  have HBF := hide (below_grown (below_grown ((HB0.out.trans (HY3.out.mono HB0.out.size)).drew) hgy1 (fun g e => by simp at e; omega)) hgy2 (fun g e => by simp at e; omega))
  have ht1 := there_of_block (w := Y.drew) kz 20 rfl
  have ht2 := there_of_block ks2 2 rfl
  have hC0 : Y.drew.heap[w1.heap.size]? = Y.heap[w1.heap.size]? ∧ Y.drew.heap[w1.heap.size + 1]? = Y.heap[w1.heap.size + 1]? := ⟨rfl, rfl⟩
  have hC1 : (Y.drew.setCells (w.heap.size + 1) 0 [.int .i64 (ps 0), .int .i64 (ps 1), .int .i64 (ps 2), .int .i64 (ps 3), .int .i64 (ps 4), .int .i64 (ps 5), .int .i64 (ps 6), .int .i64 (ps 7), .int .i64 (ps 8), .int .i64 (ps 9), .int .i64 (ps 10), .int .i64 (ps 11), .int .i64 (ps 12), .int .i64 (ps 13), .int .i64 (ps 14), .int .i64 (ps 15), .int .i64 (ps 16), .int .i64 (ps 17), .int .i64 (ps 18), .int .i64 (ps 19)]).heap[w1.heap.size]? = Y.heap[w1.heap.size]? ∧ (Y.drew.setCells (w.heap.size + 1) 0 [.int .i64 (ps 0), .int .i64 (ps 1), .int .i64 (ps 2), .int .i64 (ps 3), .int .i64 (ps 4), .int .i64 (ps 5), .int .i64 (ps 6), .int .i64 (ps 7), .int .i64 (ps 8), .int .i64 (ps 9), .int .i64 (ps 10), .int .i64 (ps 11), .int .i64 (ps 12), .int .i64 (ps 13), .int .i64 (ps 14), .int .i64 (ps 15), .int .i64 (ps 16), .int .i64 (ps 17), .int .i64 (ps 18), .int .i64 (ps 19)]).heap[w1.heap.size + 1]? = Y.heap[w1.heap.size + 1]? := ⟨hgy1.block _ (by show _ < Y.heap.size; omega) (by simp; omega), hgy1.block _ (by show _ < Y.heap.size; omega) (by simp; omega)⟩
  have hC2 : ((Y.drew.setCells (w.heap.size + 1) 0 [.int .i64 (ps 0), .int .i64 (ps 1), .int .i64 (ps 2), .int .i64 (ps 3), .int .i64 (ps 4), .int .i64 (ps 5), .int .i64 (ps 6), .int .i64 (ps 7), .int .i64 (ps 8), .int .i64 (ps 9), .int .i64 (ps 10), .int .i64 (ps 11), .int .i64 (ps 12), .int .i64 (ps 13), .int .i64 (ps 14), .int .i64 (ps 15), .int .i64 (ps 16), .int .i64 (ps 17), .int .i64 (ps 18), .int .i64 (ps 19)]).setCells (w.heap.size + 2) 0 [.int .i64 e1, .int .i64 e2]).heap[w1.heap.size]? = Y.heap[w1.heap.size]? ∧ ((Y.drew.setCells (w.heap.size + 1) 0 [.int .i64 (ps 0), .int .i64 (ps 1), .int .i64 (ps 2), .int .i64 (ps 3), .int .i64 (ps 4), .int .i64 (ps 5), .int .i64 (ps 6), .int .i64 (ps 7), .int .i64 (ps 8), .int .i64 (ps 9), .int .i64 (ps 10), .int .i64 (ps 11), .int .i64 (ps 12), .int .i64 (ps 13), .int .i64 (ps 14), .int .i64 (ps 15), .int .i64 (ps 16), .int .i64 (ps 17), .int .i64 (ps 18), .int .i64 (ps 19)]).setCells (w.heap.size + 2) 0 [.int .i64 e1, .int .i64 e2]).heap[w1.heap.size + 1]? = Y.heap[w1.heap.size + 1]? :=
    ⟨(hgy2.block _ (by have h2 := hgy1.size; have h3 : Y.drew.heap.size = Y.heap.size := rfl; omega) (by simp; omega)).trans hC1.1, (hgy2.block _ (by have h2 := hgy1.size; have h3 : Y.drew.heap.size = Y.heap.size := rfl; omega) (by simp; omega)).trans hC1.2⟩
  have LC1 : ∀ w' : World, (w'.heap[w1.heap.size]? = Y.heap[w1.heap.size]? ∧ w'.heap[w1.heap.size + 1]? = Y.heap[w1.heap.size + 1]?) → w'.rangeAt w1.heap.size 1 [.int .i64 (ps 0), .int .i64 (ps 1), .int .i64 (ps 2), .int .i64 (ps 3), .int .i64 (ps 4), .int .i64 (ps 5), .int .i64 (ps 6), .int .i64 (ps 7), .int .i64 (ps 8), .int .i64 (ps 9), .int .i64 (ps 10), .int .i64 (ps 11), .int .i64 (ps 12), .int .i64 (ps 13), .int .i64 (ps 14), .int .i64 (ps 15), .int .i64 (ps 16), .int .i64 (ps 17), .int .i64 (ps 18), .int .i64 (ps 19)] := fun w' h => range_mid (cs := [ins, .int .i64 (ps 0), .int .i64 (ps 1), .int .i64 (ps 2), .int .i64 (ps 3), .int .i64 (ps 4), .int .i64 (ps 5), .int .i64 (ps 6), .int .i64 (ps 7), .int .i64 (ps 8), .int .i64 (ps 9), .int .i64 (ps 10), .int .i64 (ps 11), .int .i64 (ps 12), .int .i64 (ps 13), .int .i64 (ps 14), .int .i64 (ps 15), .int .i64 (ps 16), .int .i64 (ps 17), .int .i64 (ps 18), .int .i64 (ps 19), fv, .int .i64 k, .int .u8 pt, .int .u16 kd]) (h.1.trans HY1.out) 1 20
  have LC2 : ∀ w' : World, (w'.heap[w1.heap.size]? = Y.heap[w1.heap.size]? ∧ w'.heap[w1.heap.size + 1]? = Y.heap[w1.heap.size + 1]?) → w'.rangeAt (w1.heap.size + 1) 0 [.int .i64 e1, .int .i64 e2] := fun w' h => range_of_block (h.2.trans HY2.out)
  clear hgy1 hp1 hgy2 hp2 kz ks ks2
  have hmix : Try.prog.follows .mixedOrders = true := by kernel_rfl
  refine (wpIn_wide (n := 0)).1 ?_
  refine wpIn_normal (wpIn_region_any hmix (wpAnyE_sound (C := fun w' => w'.heap[w1.heap.size]? = Y.heap[w1.heap.size]? ∧ w'.heap[w1.heap.size + 1]? = Y.heap[w1.heap.size + 1]?) (E := fun i => false) _ _ _ _ ?_))
  change wpAnyE _ _ _ _ _ _ _ _ _ _ _ (World.drew _)
  refine wpAnyE_takeD (i := 0) (some 11) (v := .pointer (some ⟨w1.heap.size, 1, none⟩)) (fun _ => trivial) (by kernel_rfl) rfl rfl (by kernel_rfl) (by kernel_rfl) (by kernel_rfl) (by kernel_rfl) (fun _ _ _ h => by cases h.1) hC0 (Or.inl ⟨by rfl, fun w' hC => by clear hC; go_simp⟩) ?_
  simp only [Act.put, List.setIfInBounds_toArray, List.set_cons_succ, List.set_cons_zero]
  refine wpAnyE_takeD (i := 1) (some 12) (v := .agg #[.int .i64 (ps 0), .int .i64 (ps 1), .int .i64 (ps 2), .int .i64 (ps 3), .int .i64 (ps 4), .int .i64 (ps 5), .int .i64 (ps 6), .int .i64 (ps 7), .int .i64 (ps 8), .int .i64 (ps 9), .int .i64 (ps 10), .int .i64 (ps 11), .int .i64 (ps 12), .int .i64 (ps 13), .int .i64 (ps 14), .int .i64 (ps 15), .int .i64 (ps 16), .int .i64 (ps 17), .int .i64 (ps 18), .int .i64 (ps 19)]) (fun _ => trivial) (by kernel_rfl) rfl rfl (by kernel_rfl) (by kernel_rfl) (by kernel_rfl) (by kernel_rfl) (fun _ _ _ h => by cases h.1) hC0 (yieldsC_load rfl 61 (.tmp 11) rfl w1.heap.size 1 rfl [.int .i64 (ps 0), .int .i64 (ps 1), .int .i64 (ps 2), .int .i64 (ps 3), .int .i64 (ps 4), .int .i64 (ps 5), .int .i64 (ps 6), .int .i64 (ps 7), .int .i64 (ps 8), .int .i64 (ps 9), .int .i64 (ps 10), .int .i64 (ps 11), .int .i64 (ps 12), .int .i64 (ps 13), .int .i64 (ps 14), .int .i64 (ps 15), .int .i64 (ps 16), .int .i64 (ps 17), .int .i64 (ps 18), .int .i64 (ps 19)] _ LC1 Try.underlying61 rfl (by kernel_rfl)) ?_
  simp only [Act.put, List.setIfInBounds_toArray, List.set_cons_succ, List.set_cons_zero]
  refine wpAnyE_takeD (i := 2) (some 13) (v := .agg #[.int .i64 e1, .int .i64 e2]) (fun _ => trivial) (by kernel_rfl) rfl rfl (by kernel_rfl) (by kernel_rfl) (by kernel_rfl) (by kernel_rfl) (fun _ _ _ h => by cases h.1) hC0 (yieldsC_load rfl 31 (.tmp 5) rfl (w1.heap.size + 1) 0 rfl [.int .i64 e1, .int .i64 e2] _ LC2 Try.underlying31 rfl (by kernel_rfl)) ?_
  simp only [Act.put, List.setIfInBounds_toArray, List.set_cons_succ, List.set_cons_zero]
  refine wpAnyE_ready (rs := [3]) (by kernel_rfl) (by simp) ?_
  refine AllE.cons rfl (fun K hK => ?_) AllE.nil
  refine stepAny_store _ (fun _ => trivial) rfl 61 (.tmp 2) (.tmp 12) rfl (w.heap.size + 1) 0 #[.int .i64 (ps 0), .int .i64 (ps 1), .int .i64 (ps 2), .int .i64 (ps 3), .int .i64 (ps 4), .int .i64 (ps 5), .int .i64 (ps 6), .int .i64 (ps 7), .int .i64 (ps 8), .int .i64 (ps 9), .int .i64 (ps 10), .int .i64 (ps 11), .int .i64 (ps 12), .int .i64 (ps 13), .int .i64 (ps 14), .int .i64 (ps 15), .int .i64 (ps 16), .int .i64 (ps 17), .int .i64 (ps 18), .int .i64 (ps 19)] rfl rfl ht1 (by kernel_rfl) (by simp [Value.oneCell']) ?_
  refine hK _ _ (.inr hC1) ?_
  clear hK K
  refine wpAnyE_ready (rs := [4]) (by kernel_rfl) (by simp) ?_
  refine AllE.cons rfl (fun K hK => ?_) AllE.nil
  refine stepAny_store _ (fun _ => trivial) rfl 31 (.tmp 3) (.tmp 13) rfl (w.heap.size + 2) 0 #[.int .i64 e1, .int .i64 e2] rfl rfl ht2 (by kernel_rfl) (by simp [Value.oneCell']) ?_
  refine hK _ _ (.inr hC2) ?_
  clear hK K
  refine wpAnyE_done (by kernel_rfl) ⟨rfl, ?_⟩ _
  clear ht1 ht2 hC1 hC2 hC0 LC1 LC2
  dsimp only
  generalize (Y.drew.setCells (w.heap.size + 1) 0 [.int .i64 (ps 0), .int .i64 (ps 1), .int .i64 (ps 2), .int .i64 (ps 3), .int .i64 (ps 4), .int .i64 (ps 5), .int .i64 (ps 6), .int .i64 (ps 7), .int .i64 (ps 8), .int .i64 (ps 9), .int .i64 (ps 10), .int .i64 (ps 11), .int .i64 (ps 12), .int .i64 (ps 13), .int .i64 (ps 14), .int .i64 (ps 15), .int .i64 (ps 16), .int .i64 (ps 17), .int .i64 (ps 18), .int .i64 (ps 19)]).setCells (w.heap.size + 2) 0 [.int .i64 e1, .int .i64 e2] = Z at *
  rw [then_normalW]
  go_wp2_with fail
  exact HRET.out _ Z ps rfl rfl rfl HP1.out HP2.out HBF.out HFS.out
end Go.Proofs.Ytjckgnpbjekhbaa
