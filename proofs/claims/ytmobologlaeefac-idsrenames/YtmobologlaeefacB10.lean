/-
  Texts laid together in one: MathRW, CodeRaws, WordsByteAt, WordsJoin, CodeEncode, Slots, SlicesContains, Ref03Letter.
-/
import Derived.Test.YtmobologlaeefacB09
import Derived.Test.YtmobologlaeefacB08
import Derived.WalkSpells
import Derived.WalkMore
import Derived.Laws.AppendOwn
import Derived.BigRegion
import Derived.Test.YtmobologlaeefacB07
import Derived.Test.YtmobologlaeefacProg
import Derived.Test.YtmobologlaeefacB01
import Derived.Deep.RegionWith
import Derived.Deep.DrawnRows
import Derived.WalkKit
import Derived.Deep.QuietTactic
import Derived.BigQuiet
import Derived.Test.YtmobologlaeefacB03
/-
  What is written is read as it was, and what is read is written as it was: on lists.
-/
namespace Go.Proofs.Ytmobologlaeefac
open Go.RowKit

theorem nth_app_lo (xs ys : List Int) (k : Nat) (h : k < xs.length) : nth (xs ++ ys) k = nth xs k := getD_left xs ys k h
theorem nth_app_hi (xs ys : List Int) (k : Nat) : nth (xs ++ ys) (xs.length + k) = nth ys k := by
  rw [getD_right _ _ _ (by omega)]; congr 1; omega

/-- The words from the k-th instruction on. -/
theorem writeTo_split (gen bound : Int) (rs : List (Int × List Int)) (k : Nat) : writeTo gen bound rs rs.length = writeTo gen bound rs k ++ (rs.drop k).flatMap rawW := by
  unfold writeTo
  rw [List.take_length, List.append_assoc, ← List.flatMap_append, List.take_append_drop]

theorem drop_cons (rs : List (Int × List Int)) (k : Nat) (h : k < rs.length) : rs.drop k = nthR rs k :: rs.drop (k + 1) := by
  rw [List.drop_eq_getElem_cons h]; simp [nthR, List.getD, h]

theorem rest_write (gen bound : Int) (rs : List (Int × List Int)) (hok : RawsOk rs) (hsm : ∀ j, j < rs.length → (nthR rs j).2.length < 65535) :
    ∀ d k, rs.length - k = d → k ≤ rs.length → (rest (writeTo gen bound rs rs.length) (sizeTo rs k)).map (rawAt (writeTo gen bound rs rs.length)) = rs.drop k ∧ stop (writeTo gen bound rs rs.length) (sizeTo rs k) = (writeTo gen bound rs rs.length).length := by
  intro d
  induction d with
  | zero =>
    intro k hd hk
    obtain rfl : k = rs.length := by omega
    have hl := writeTo_len gen bound rs rs.length (Nat.le_refl _)
    rw [rest_end _ _ (by omega), stop_end _ _ (by omega), List.drop_length]
    exact ⟨rfl, hl.symm⟩
  | succ d ih =>
    intro k hd hk
    have hkl : k < rs.length := by omega
    obtain ⟨o1, o2, o3, _⟩ := hok k hkl
    have hs := hsm k hkl
    have hlk := writeTo_len gen bound rs k hk
    have hln := writeTo_len gen bound rs rs.length (Nat.le_refl _)
    have hsp := writeTo_split gen bound rs k
    rw [drop_cons rs k hkl, List.flatMap_cons] at hsp
    generalize hw : writeTo gen bound rs rs.length = ws at *
    have hzl : ws.length = sizeTo rs k + (1 + (nthR rs k).2.length + ((rs.drop (k + 1)).flatMap rawW).length) := by
      rw [hsp, List.length_append, List.length_append, hlk]; simp [rawW]; omega
    have hx : nth ws (sizeTo rs k) = ((nthR rs k).2.length + 1 : Int) * 65536 + (nthR rs k).1 := by
      have h0 := nth_app_hi (writeTo gen bound rs k) (rawW (nthR rs k) ++ (rs.drop (k + 1)).flatMap rawW) 0
      rw [← hsp, hlk] at h0
      exact h0
    have hc : cntN ws (sizeTo rs k) = (nthR rs k).2.length + 1 := by unfold cntN; rw [hx]; omega
    have ho : opI ws (sizeTo rs k) = (nthR rs k).1 := by unfold opI; rw [hx]; omega
    have hb : badB ws (sizeTo rs k) = false := badB_false (fun h => by
      unfold badAt at h
      rw [hc] at h
      omega)
    have hm : midL ws (sizeTo rs k + 1) (cntN ws (sizeTo rs k) - 1) = (nthR rs k).2 := by
      rw [hc, hsp, midL, ← hlk]
      have : (writeTo gen bound rs k ++ (rawW (nthR rs k) ++ (rs.drop (k + 1)).flatMap rawW)) = (writeTo gen bound rs k ++ [((nthR rs k).2.length + 1 : Int) * 65536 + (nthR rs k).1]) ++ ((nthR rs k).2 ++ (rs.drop (k + 1)).flatMap rawW) := by simp [rawW]
      rw [this, List.drop_left' (by simp), Nat.add_sub_cancel, List.take_left' rfl]
    have hnx : sizeTo rs k + cntN ws (sizeTo rs k) = sizeTo rs (k + 1) := by rw [hc, sizeTo_succ rs k hkl]; omega
    obtain ⟨i1, i2⟩ := ih (k + 1) (by omega) (by omega)
    rw [rest_go ws _ (by omega) hb, stop_go ws _ (by omega) hb, hnx, List.map_cons, i1, i2, drop_cons rs k hkl]
    refine ⟨?_, rfl⟩
    congr 1
    unfold rawAt
    rw [ho, hm]

theorem headE_write (gen bound : Int) (ys : List Int) (hb1 : ¬ bound = 0) (hb2 : ¬ 65536 < bound) : headE ([119734787, 65536, gen, bound, 0] ++ ys) 0 = (0, 0) := by
  have hl : 5 ≤ ([119734787, 65536, gen, bound, 0] ++ ys).length := by simp
  rw [headE_step _ 0 (by omega), if_neg (by omega), if_neg (by simp [nth, wrongE]), headE_step _ 1 (by omega), if_neg (by omega), if_neg (by simp [nth, wrongE]), headE_step _ 2 (by omega), if_neg (by omega), if_neg (by simp [wrongE]),
    headE_step _ 3 (by omega), if_neg (by omega), if_neg (by simp [nth, wrongE, hb1, hb2]), headE_step _ 4 (by omega), if_neg (by omega), if_neg (by simp [nth, wrongE])]
  exact headE_end _

theorem writeTo_within (gen bound : Int) (hg0 : 0 ≤ gen) (hg1 : gen < 4294967296) (hb0 : 0 ≤ bound) (hb1 : bound < 4294967296) (rs : List (Int × List Int)) (hok : RawsOk rs) (hsm : ∀ j, j < rs.length → (nthR rs j).2.length < 65535) : Within 4294967296 (writeTo gen bound rs rs.length) := by
  intro z hz
  unfold writeTo at hz
  rw [List.take_length, List.mem_append] at hz
  rcases hz with hz | hz
  · simp at hz; omega
  · obtain ⟨r, hr, hz⟩ := List.mem_flatMap.1 hz
    obtain ⟨j, hj, rfl⟩ := List.mem_iff_getElem.1 hr
    have e : nthR rs j = rs[j] := by simp [nthR, List.getD, hj]
    obtain ⟨o1, o2, o3, _⟩ := hok j hj
    have h1 := hsm j hj
    rw [e] at o1 o2 o3 h1
    simp only [rawW, List.mem_cons] at hz
    rcases hz with rfl | hz
    · constructor <;> omega
    · exact o3 z hz

/-- Read of what Write answers. -/
theorem read_write (gen bound : Int) (rs : List (Int × List Int)) (hok : RawsOk rs) (hz : fault rs 0 = (0, 0)) (hb1 : ¬ bound = 0) (hb2 : ¬ 65536 < bound) :
    readE (writeTo gen bound rs rs.length) = (0, 0) ∧ readL (writeTo gen bound rs rs.length) = rs ∧ readAt (writeTo gen bound rs rs.length) 2 = gen ∧ readAt (writeTo gen bound rs rs.length) 3 = bound := by
  have hn := fault_none rs (by rw [hz])
  have hlen := writeTo_len gen bound rs rs.length (Nat.le_refl _)
  obtain ⟨h1, h2⟩ := rest_write gen bound rs hok (fun j hj => (hn rs.length (Nat.le_refl _)).2 j hj) rs.length 0 rfl (by omega)
  rw [sizeTo_zero] at h1 h2
  rw [List.drop_zero] at h1
  have hh : headE (writeTo gen bound rs rs.length) 0 = (0, 0) := headE_write gen bound _ hb1 hb2
  have he : readE (writeTo gen bound rs rs.length) = (0, 0) := by
    unfold readE
    rw [if_neg (by have := (hn rs.length (Nat.le_refl _)).1; omega), hh, if_neg (by simp), if_neg (by omega)]
  refine ⟨he, ?_, ?_, ?_⟩
  · unfold readL; rw [he, if_pos rfl]; exact h1
  · unfold readAt; rw [he, if_pos rfl]; rfl
  · unfold readAt; rw [he, if_pos rfl]; rfl

end Go.Proofs.Ytmobologlaeefac

/-
  What raws of the package code answers: a module's instructions as words, or the first that is wrong.
-/
namespace Go.Proofs.Ytmobologlaeefac
open Go.RowKit
set_option linter.unusedVariables false
set_option linter.unusedSimpArgs false
set_option maxRecDepth 10000

set_option maxHeartbeats 2000000 in
/-- Of a bound that may not be. -/
theorem raws_bad (gen bound : Int) (a : Option Addr) (n cap : Nat) (l : List InstT) (w : World) (hg0 : 0 ≤ gen) (hg1 : gen < 4294967296) (hb0 : 0 ≤ bound) (hb1 : bound < 4294967296) (hv : InstsV w a l) (hok : InstsOk l) (hl : l.length = n) (hn : 40 * n ≤ 140737488351232) (h1 : bound = 0 ∨ 65536 < bound) :
    Calls Try.prog 50 #[modV gen bound a n cap] w fun e w' => Below w.heap.size w w' ∧ ∃ ax cx m, e = .returned (.tuple #[.slice ax m cx, .agg #[.int .i64 (shapeE bound l).1, .int .i64 (shapeE bound l).2]]) ∧ (rawsR bound l).length = m ∧ m ≤ cx ∧ RawsV w' ax (rawsR bound l) := by
  have hH := fun w => headOf_any gen bound a n cap w
  have hW := fun w => writeC gen bound none 0 0 [] w hg0 hg1 hb0 hb1 rawsV_nil (fun j hj => by simp at hj) rfl (by omega) (by omega)
  unfold modV at hH ⊢
  have HL : Hid (l.length = n) := hl
  have e1 : writeE bound [] = (24, 0) := by unfold writeE; rw [if_pos h1]
  have e2 : shapeE bound l = (24, 0) := by unfold shapeE; rw [if_pos h1]
  have e3 : rawsR bound l = [] := by unfold rawsR; rw [e2]; rfl
  rw [e1] at hW
  rw [e2, e3]
  clear e1 e2 e3 h1 hv hok hl
  go_enter Try.func50, Try.ntmps50
  go_wp2_with fail
  have hB0 : Below w.heap.size w ((w.alloc (.cells #[.int .u32 gen, .int .u32 bound, .slice a n cap] 25)).alloc (.cells #[.int .i64 0, .int .i64 0] 29)) := ((Below.refl _ w).alloc (Nat.le_refl _) _).alloc (by simp) _
  have kX : ((w.alloc (.cells #[.int .u32 gen, .int .u32 bound, .slice a n cap] 25)).alloc (.cells #[.int .i64 0, .int .i64 0] 29)).heap[w.heap.size + 1]? = some (.cells #[.int .i64 0, .int .i64 0] 29 (0, 0)) := by simpa using alloc_new (w.alloc (.cells #[.int .u32 gen, .int .u32 bound, .slice a n cap] 25)) #[.int .i64 0, .int .i64 0] 29
  generalize (w.alloc (.cells #[.int .u32 gen, .int .u32 bound, .slice a n cap] 25)).alloc (.cells #[.int .i64 0, .int .i64 0] 29) = W0 at *
  have l0 := (Array.getElem?_eq_some_iff.1 kX).1
  refine (hH _).mono ?_
  rintro e w1 ⟨rfl, hb1'⟩
  have s1 := hb1'.size
  go_wp2_with fail
  refine (hW _).mono ?_
  rintro e w2 ⟨hb2, ax, cx, m, rfl, hm, hown⟩
  have s2 := hb2.size
  have hb3 : Below w2.heap.size w2 (w2.alloc (.cells #[.int .i64 24, .int .i64 0] 29)) := (Below.refl _ _).alloc (Nat.le_refl _) _
  have hbA := hb1'.trans ((hb2.trans (hb3.mono s2)).mono s1)
  have kX3 := (hbA.block _ l0).trans kX
  have kS := alloc_new w2 #[.int .i64 24, .int .i64 0] 29
  have hbW := hB0.trans (hbA.mono hB0.size)
  obtain ⟨c0, c1, _⟩ := cell_of_two kX3
  have f0 := (one_block kX3).2 0
  have f1 := (one_block kX3).2 1
  obtain ⟨d0, d1, _⟩ := cell_of_two kS
  have hne : w2.heap.size ≠ w.heap.size + 1 := by omega
  clear hb1' hb2 hb3 hbA hown hm hH hW
  have hz : ((0 : Nat) : Int) = 0 := rfl
  go_wp2
  go_region
  go_wp2
  have hB := two_put2 kX3 (.int .i64 24) (.int .i64 0)
  have hBel := (hbW.trans ((two_below (w2.alloc (.cells #[.int .i64 24, .int .i64 0] 29)) (w.heap.size + 1) (.int .i64 24) (.int .i64 0)).mono (by omega))).drew
  have hB' : ((((w2.alloc (.cells #[.int .i64 24, .int .i64 0] 29)).setCell ⟨w.heap.size + 1, 0, none⟩ (.int .i64 24)).setCell ⟨w.heap.size + 1, 1, none⟩ (.int .i64 0)).drew).heap[w.heap.size + 1]? = some (.cells #[.int .i64 24, .int .i64 0] 29 (0, 0)) := hB
  clear c0 c1 f0 f1 d0 d1 kX3 kS hB
  generalize (((w2.alloc (.cells #[.int .i64 24, .int .i64 0] 29)).setCell ⟨w.heap.size + 1, 0, none⟩ (.int .i64 24)).setCell ⟨w.heap.size + 1, 1, none⟩ (.int .i64 0)).drew = WF at hB' hBel ⊢
  obtain ⟨g0, g1, _⟩ := cell_of_two hB'
  refine bodyPost_ret (v := .tuple #[.slice none 0 0, .agg #[.int .i64 24, .int .i64 0]]) ?_ rfl ⟨hBel, none, 0, 0, rfl, rfl, Nat.le_refl _, rawsV_nil⟩
  simp [results, Try.results50, go_sem, g0, g1]

theorem Raws.info : (Try.prog.info? 114).map (fun i => (i.zero, i.size, i.bytes)) = some (some (.agg #[.int .u16 0, .slice none 0 0]), 2, 32) := by kernel_rfl

/-- A module's words while they are gathered. -/
structure RawsS (w wr : World) (gen bound : Int) (a : Option Addr) (n cap : Nat) (v : Value) (rs : List (Int × List Int)) : Prop where
  row : ∃ cs, wr.ownsRow (w.heap.size + 2) 114 2 v rs.length cs ∧ RowO wr (w.heap.size + 2) v.ownBlock rs cs
  mbox : wr.heap[w.heap.size]? = some (.cells #[.int .u32 gen, .int .u32 bound, .slice a n cap] 25 (0, 0))
  sbox : wr.heap[w.heap.size + 1]? = some (.cells #[.int .i64 0, .int .i64 0] 29 (0, 0))
  bel : Below w.heap.size w wr

theorem RawsS.below {w wr wr' : World} {gen bound : Int} {a : Option Addr} {n cap : Nat} {v : Value} {rs : List (Int × List Int)} (h : RawsS w wr gen bound a n cap v rs) (hb : Below wr.heap.size wr wr') : RawsS w wr' gen bound a n cap v rs := by
  obtain ⟨cs, h1, h2⟩ := h.row
  exact ⟨⟨cs, own_below h1 hb, h2.below hb⟩, (hb.block _ (Array.getElem?_eq_some_iff.1 h.mbox).1).trans h.mbox, (hb.block _ (Array.getElem?_eq_some_iff.1 h.sbox).1).trans h.sbox, h.bel.trans (hb.mono h.bel.size)⟩
theorem RawsS.push {w wr W w6 : World} {gen bound : Int} {a : Option Addr} {n cap : Nat} {v v' : Value} {rs : List (Int × List Int)} {cs : List Value} {op : Int} {ms : List Int} {aj : Option Addr} {nj cj g' : Nat} (h : RawsS w wr gen bound a n cap v rs) (h1 : wr.ownsRow (w.heap.size + 2) 114 2 v rs.length cs) (h2 : RowO wr (w.heap.size + 2) v.ownBlock rs cs)
    (hb : Below wr.heap.size wr W) (hs : W.ownsRow wr.heap.size 22 1 (.slice aj nj cj) nj (ms.map (Value.int .u32))) (hl : ms.length = nj) (hg : W.grownBy w6 v.ownBlock) (hat : v.ownBlock = some g' ∨ g' = W.heap.size) (hv' : v'.ownBlock = some g')
    (hown : w6.ownsRow (w.heap.size + 2) 114 2 v' (rs.length + 1) (cs ++ [.int .u16 op, .slice aj nj cj])) : RawsS w w6 gen bound a n cap v' (rs ++ [(op, ms)]) := by
  have hlo : ∀ g, v.ownBlock = some g → w.heap.size + 2 ≤ g ∧ g < wr.heap.size := fun g e => h1.lt g e
  have hl1 := (Array.getElem?_eq_some_iff.1 h.sbox).1
  have hS := h.below hb
  have hl2 := (Array.getElem?_eq_some_iff.1 hS.sbox).1
  refine ⟨⟨_, by rw [List.length_append]; exact hown, by rw [hv']; exact h2.push hb hs hl (fun b e => (hlo b e).2) (by omega) hg hat⟩, ?_, ?_, ?_⟩
  · exact (hg.block _ (by omega) (fun e => by have := (hlo _ e.symm).1; omega)).trans hS.mbox
  · exact (hg.block _ hl2 (fun e => by have := (hlo _ e.symm).1; omega)).trans hS.sbox
  · exact hS.bel.grown hg hS.bel.size (fun k e => by have := (hlo k e).1; omega)

theorem spot_store {w wr : World} {gen bound : Int} {a : Option Addr} {n cap : Nat} {v : Value} {rs : List (Int × List Int)} (h : RawsS w wr gen bound a n cap v rs) : wr.cell? ⟨w.heap.size + 1, 0, none⟩ = some (.int .i64 0) ∧ wr.cell? ⟨w.heap.size + 1, 1, none⟩ = some (.int .i64 0) ∧ wr.frozen? ⟨w.heap.size + 1, 0, none⟩ = false ∧ wr.frozen? ⟨w.heap.size + 1, 1, none⟩ = false := by
  obtain ⟨hc, hf⟩ := one_block h.sbox
  exact ⟨hc 0, hc 1, hf 0, hf 1⟩

set_option maxHeartbeats 4000000 in
/-- Of a bound that may be. -/
theorem raws_ok (gen bound : Int) (a : Option Addr) (n cap : Nat) (l : List InstT) (w : World) (hg0 : 0 ≤ gen) (hg1 : gen < 4294967296) (hb0 : 0 ≤ bound) (hb1 : bound < 4294967296) (hv : InstsV w a l) (hok : InstsOk l) (hl : l.length = n) (hn : 40 * n ≤ 140737488351232) (h1 : ¬ (bound = 0 ∨ 65536 < bound)) :
    Calls Try.prog 50 #[modV gen bound a n cap] w fun e w' => Below w.heap.size w w' ∧ ∃ ax cx m, e = .returned (.tuple #[.slice ax m cx, .agg #[.int .i64 (shapeE bound l).1, .int .i64 (shapeE bound l).2]]) ∧ (rawsR bound l).length = m ∧ m ≤ cx ∧ RawsV w' ax (rawsR bound l) := by
  obtain ⟨i0, hi, hz0, hz1, hz2⟩ := info_parts Raws.info
  have HI : Hid (Try.prog.info? 114 = some i0 ∧ i0.zero = some (.agg #[.int .u16 0, .slice none 0 0]) ∧ i0.size = 2 ∧ i0.bytes = 32) := ⟨hi, hz0, hz1, hz2⟩
  clear hi hz0 hz1 hz2
  have hH := fun w => headOf_any gen bound a n cap w
  have hW := fun w => writeC gen bound none 0 0 [] w hg0 hg1 hb0 hb1 rawsV_nil (fun j hj => by simp at hj) rfl (by omega) (by omega)
  unfold modV at hH ⊢
  have HL : Hid (l.length = n) := hl
  have e1 : writeE bound [] = (0, 0) := by unfold writeE; rw [if_neg h1]; rfl
  have e2 : writeL gen bound [] = [119734787, 65536, gen, bound, 0] := by unfold writeL; rw [e1]; rfl
  rw [e1, e2] at hW
  have HE : Hid (shapeE bound l = shapeF bound 0 5 l) := by show _ = _; unfold shapeE; rw [if_neg h1]
  have HV : Hid (InstsV w a l) := hv
  have HOK : Hid (InstsOk l) := hok
  clear e1 e2 h1 hv hok hl
  obtain ⟨E, hE⟩ : ∃ E, E = shapeE bound l := ⟨_, rfl⟩
  obtain ⟨RR, hRR⟩ : ∃ RR, RR = rawsR bound l := ⟨_, rfl⟩
  rw [← hE, ← hRR]
  have HEE : Hid (E = shapeE bound l) := hE
  have HRR : Hid (RR = rawsR bound l) := hRR
  clear hE hRR
  go_enter Try.func50, Try.ntmps50
  go_wp2_with fail
  have hB0 : Below w.heap.size w ((w.alloc (.cells #[.int .u32 gen, .int .u32 bound, .slice a n cap] 25)).alloc (.cells #[.int .i64 0, .int .i64 0] 29)) := ((Below.refl _ w).alloc (Nat.le_refl _) _).alloc (by simp) _
  have hS0 : RawsS w ((w.alloc (.cells #[.int .u32 gen, .int .u32 bound, .slice a n cap] 25)).alloc (.cells #[.int .i64 0, .int .i64 0] 29)) gen bound a n cap (.slice none 0 0) [] :=
    ⟨⟨[], World.ownsRow_nil _ _ _ _, rowO_nil⟩, (Below.heap_alloc _ _ _ (by simp)).trans (alloc_new w _ _), by simpa using alloc_new (w.alloc (.cells #[.int .u32 gen, .int .u32 bound, .slice a n cap] 25)) #[.int .i64 0, .int .i64 0] 29, hB0⟩
  clear hB0
  generalize (w.alloc (.cells #[.int .u32 gen, .int .u32 bound, .slice a n cap] 25)).alloc (.cells #[.int .i64 0, .int .i64 0] 29) = W0 at *
  refine (hH _).mono ?_
  rintro e w1 ⟨rfl, hb1'⟩
  have hS1 := hS0.below hb1'
  clear hS0 hb1' hH
  go_wp2_with fail
  refine (hW _).mono ?_
  rintro e w2 ⟨hb2, ax, cx, m, rfl, hm, hown⟩
  obtain rfl : 5 = m := hm
  have hS2 := hS1.below hb2
  have hS3 := hS2.below ((Below.refl _ w2).alloc (Nat.le_refl _) (.cells #[.int .i64 0, .int .i64 0] 29))
  obtain ⟨d0, d1, _⟩ := cell_of_two (alloc_new w2 #[.int .i64 0, .int .i64 0] 29)
  have m2 := (one_block hS3.mbox).1 2
  have HS3 : Hid _ := hS3
  clear hS1 hb2 hS2 hS3 hown hW
  go_wp2
  go_loopw [6, 7, 27] (fun c v i wr => ∃ k : Nat, k ≤ n ∧ i = .int .i64 k ∧ c = .int .i64 (sizeTo (rawsL bound l) k) ∧ sizeTo (rawsL bound l) k ≤ 1048576 ∧ E = shapeF bound k (sizeTo (rawsL bound l) k) (l.drop k) ∧ RawsS w wr gen bound a n cap v (rawsL bound (l.take k))) (fun _ _ i _ => n - (intOf i).toNat)
  case atStart => exact ⟨0, Nat.zero_le _, rfl, rfl, by rw [sizeTo_zero]; decide, by rw [HEE.out, HE.out, sizeTo_zero]; rfl, HS3.out⟩
  case round =>
    obtain ⟨k, hk, rfl, rfl, hsz, hEk, hS⟩ := hrel
    clear HS3 d0 d1 m2 HE
    have HEK : Hid (E = shapeF bound k (sizeTo (rawsL bound l) k) (l.drop k)) := hEk
    clear hEk
    have hA := HV.out.below hS.bel
    obtain ⟨a', cap', rfl⟩ : ∃ a cap, u7 = .slice a (rawsL bound (l.take k)).length cap := by
      obtain ⟨cs, h1, _⟩ := hS.row
      rcases h1.2 with ⟨rfl, h0⟩ | ⟨g, cap, cur, rfl, _⟩
      · exact ⟨none, 0, by rw [h0]⟩
      · exact ⟨_, _, rfl⟩
    have hlk : (rawsL bound (l.take k)).length = k := by rw [rawsL_len, List.length_take, HL.out]; omega
    rw [hlk] at hS ⊢
    by_cases hlt : k < n
    · have hkl : k < l.length := by rw [HL.out]; exact hlt
      obtain ⟨b1, o1, aj, cj, nj, rfl, hbl, p1, p2, p3, p4, p5, p6, p7⟩ := hA k hkl
      have hEs := shape_step bound l k hkl
      have hss := sizeTo_succ (rawsL bound l) k (by rw [rawsL_len]; exact hkl)
      rw [nthR_raws bound l k hkl] at hss
      have htk := rawsL_take bound l k hkl
      have hRn := HRR.out
      have hox := HOK.out k hkl
      have hRaw := fun wx (hx : Below wr.heap.size wr wx) => raw_any (nthI l k) bound aj nj cj wx (p6.below hx) hox p5
      have hEk := HEK.out
      rw [hEs] at hEk
      have HEK2 : Hid _ := hEk
      have HSS : Hid _ := hss
      have HTK : Hid _ := htk
      have hro : rawE (nthI l k) bound = 0 → rawO (nthI l k) bound = (nthI l k).1 := fun h => by unfold rawO; rw [if_pos h]
      clear hEs hss htk HEK hEk hRn hA p6 hox
      generalize hx : nthI l k = x at *
      have hki : (k : Int) < (n : Int) := by omega
      have hk0 : (0 : Int) ≤ (k : Int) := by omega
      obtain ⟨xo, xt, xr, xl⟩ := x
      unfold instV at hRaw
      simp only at *
      have mb := (one_block (hS.below ((Below.refl _ wr).alloc (Nat.le_refl _) (.cells #[.int .u16 xo, .int .u32 xt, .int .u32 xr, .slice aj nj cj] 51))).mbox).1 1
      have hbA : Below wr.heap.size wr (wr.alloc (.cells #[.int .u16 xo, .int .u32 xt, .int .u32 xr, .slice aj nj cj] 51)) := (Below.refl _ wr).alloc (Nat.le_refl _) _
      have hC := hRaw _ hbA
      go_wp2_with fail
      generalize wr.alloc (.cells #[.int .u16 xo, .int .u32 xt, .int .u32 xr, .slice aj nj cj] 51) = WA at *
      refine hC.mono ?_
      rintro e w5 ⟨hb5, a5, m5, c5, rfl, hm5, hown5⟩
      have hbB : Below wr.heap.size wr w5 := hbA.trans (hb5.mono hbA.size)
      have hS5 := hS.below hbB
      have hown5' := own_lo hown5 hbA.size
      clear hC hRaw hb5 hbA mb p1 p2 p3 p4 hown5
      have HM5 : Hid _ := hm5
      by_cases hr : rawE (xo, xt, xr, xl) bound = 0
      · have hro' := hro hr
        rw [hr, hro']
        have hEk := HEK2.out
        rw [if_neg (by simp [hr])] at hEk
        have HEK3 : Hid _ := hEk
        clear hro hro' hEk HEK2
        have hbC : Below wr.heap.size wr (w5.alloc (.cells #[.int .u16 xo, .slice a5 m5 c5] 114)) := hbB.alloc hbB.size _
        obtain ⟨q0, q1, _⟩ := cell_of_two (alloc_new w5 #[.int .u16 xo, .slice a5 m5 c5] 114)
        have hss : (sizeTo (rawsL bound l) (k + 1) : Nat) = sizeTo (rawsL bound l) k + 1 + m5 := by rw [HSS.out, HM5.out]
        have hm5b : m5 < 65535 := by rw [← HM5.out]; exact rawWs_len _ _
        by_cases hbig : 1048576 < sizeTo (rawsL bound l) (k + 1)
        · have hE4 : E = (4, k) := by rw [HEK3.out, if_pos hbig]
          have hbig' : (1048576 : Int) < (sizeTo (rawsL bound l) k : Int) + (1 + (m5 : Int)) := by omega
          generalize sizeTo (rawsL bound l) k = sz at *
          clear hbC hbig hss HEK3 HSS HTK hr HM5 hm5
          have hR : RR = [] := by rw [HRR.out, rawsR, ← HEE.out, hE4, if_neg (by first | exact hr | simp)]
          subst hR hE4
          have hS6 := hS5.below ((Below.refl _ w5).alloc (Nat.le_refl _) (.cells #[.int .u16 xo, .slice a5 m5 c5] 114))
          obtain ⟨s0, s1, f0, f1⟩ := spot_store hS6
          have hB3 := two_put2 hS6.sbox (.int .i64 4) (.int .i64 (k : Int))
          have hBel := hS6.bel.trans ((two_below (w5.alloc (.cells #[.int .u16 xo, .slice a5 m5 c5] 114)) (w.heap.size + 1) (.int .i64 4) (.int .i64 (k : Int))).mono (by omega))
          have HB3 : Hid _ := hB3
          have HBel : Hid _ := hBel
          clear hS6 hS5 hS hbB hown5' hB3 hBel HRR HEE HV HOK
          go_wp2
          have hB3 := HB3.out
          have hBel := HBel.out
          clear HB3 HBel s0 s1 f0 f1
          generalize ((w5.alloc _).setCell _ _).setCell _ _ = W at hB3 hBel ⊢
          obtain ⟨hd, _⟩ := one_block hB3
          have d0 := hd 0
          have d1 := hd 1
          refine bodyPost_ret (v := .tuple #[.slice none 0 0, .agg #[.int .i64 4, .int .i64 (k : Int)]]) ?_ rfl ⟨hBel, none, 0, 0, rfl, rfl, Nat.le_refl _, rawsV_nil⟩
          simp [results, Try.results50, go_sem, d0, d1]
        · have hE5 : E = shapeF bound (k + 1) (sizeTo (rawsL bound l) (k + 1)) (l.drop (k + 1)) := by rw [HEK3.out, if_neg hbig]
          have HE5 : Hid _ := hE5
          have hbig' : ¬ (1048576 : Int) < (sizeTo (rawsL bound l) k : Int) + (1 + (m5 : Int)) := by omega
          have HBG : Hid (sizeTo (rawsL bound l) (k + 1) ≤ 1048576) := by show _ ≤ _; omega
          have HSK : Hid ((sizeTo (rawsL bound l) k : Int) + (1 + (m5 : Int)) = (sizeTo (rawsL bound l) (k + 1) : Nat)) := by show _ = _; omega
          obtain ⟨cs, hc1, hc2⟩ := hS.row
          have N0 : Below wr.heap.size wr ((w5.alloc (.cells #[.int .u16 xo, .slice a5 m5 c5] 114)).alloc (.cells #[.int .u16 xo, .slice a5 m5 c5] 114)) := hbC.alloc hbC.size _
          have N1 : Hid (((w5.alloc (.cells #[.int .u16 xo, .slice a5 m5 c5] 114)).alloc (.cells #[.int .u16 xo, .slice a5 m5 c5] 114)).ownsRow (w.heap.size + 2) 114 2 (.slice a' k cap') k cs) := own_below (by rw [hlk] at hc1; exact hc1) N0
          have N2 : Hid (∀ (j : Nat) (u : Value), [Value.int .u16 xo, .slice a5 m5 c5][j]? = some u → ((w5.alloc (.cells #[.int .u16 xo, .slice a5 m5 c5] 114)).alloc (.cells #[.int .u16 xo, .slice a5 m5 c5] 114)).cell? ((⟨w5.heap.size + 1, 0, none⟩ : Addr).add j) = some u) := World.news_of_block (cs := #[.int .u16 xo, .slice a5 m5 c5]) (t := 114) (fr := (0, 0)) (by first | exact alloc_new _ _ _ | simpa using alloc_new (w5.alloc (.cells #[.int .u16 xo, .slice a5 m5 c5] 114)) #[.int .u16 xo, .slice a5 m5 c5] 114)
          have N3 : Hid (∀ u : Value, u ∈ [Value.int .u16 xo, .slice a5 m5 c5] → u.oneCell' = true) := by intro u hu; simp at hu; rcases hu with rfl | rfl <;> rfl
          have N4 : k + 1 ≤ maxLen := by unfold maxLen; omega
          have N5 : (k + 1) * 32 ≤ 140737488355328 := by omega
          have hl1 := (Array.getElem?_eq_some_iff.1 hS.sbox).1
          have N6 : Hid (w.heap.size + 2 ≤ ((w5.alloc (.cells #[.int .u16 xo, .slice a5 m5 c5] 114)).alloc (.cells #[.int .u16 xo, .slice a5 m5 c5] 114)).heap.size) := by show _ ≤ _; have := N0.size; omega
          have N7 : Hid (((w5.alloc (.cells #[.int .u16 xo, .slice a5 m5 c5] 114)).alloc (.cells #[.int .u16 xo, .slice a5 m5 c5] 114)).ownsRow wr.heap.size 22 1 (.slice a5 m5 c5) m5 ((rawWs (xo, xt, xr, xl) bound).map (Value.int .u32))) := own_below (own_below hown5' ((Below.refl _ w5).alloc (Nat.le_refl _) _)) ((Below.refl _ _).alloc (Nat.le_refl _) _)
          have HN0 : Hid _ := N0
          have HS : Hid _ := hS
          have HC1 : Hid _ := hc1
          have HC2 : Hid _ := hc2
          have HLK : Hid _ := hlk
          clear hS hS5 hbB hbC hown5' N0 hc1 hc2 hss hbig hr HEK3 hE5 hm5 hlk hl1
          generalize sizeTo (rawsL bound l) k = sz at *
          go_wp2_with (at_builtin; refine wpList_append_lies _ rfl (.tmp 54) (.tmp 56) 87 rfl (w.heap.size + 2) 114 i0 (.agg #[.int .u16 0, .slice none 0 0]) 2 32 Try.underlying87 HI.out.1 HI.out.2.1 HI.out.2.2.1 HI.out.2.2.2 rfl (by decide) (.slice a' k cap') k cs rfl N1.out ⟨w5.heap.size + 1, 0, none⟩ 1 1 [.int .u16 xo, .slice a5 m5 c5] rfl rfl N2.out N3.out (by decide) N4 N5 N6.out _ rfl ?_)
          intro g6 cap6 w6 hown6 hgr6 hat6 hlt6
          have hS6 := HS.out.push (v' := .slice (some ⟨g6, 0, none⟩) (k + 1) cap6) HC1.out HC2.out HN0.out N7.out HM5.out hgr6 (by simpa using hat6) rfl (by rw [HLK.out]; exact hown6)
          rw [← HTK.out] at hS6
          have HS6 : Hid _ := hS6
          clear hS6 hown6 hgr6 hat6 N1 N2 N3 N6 N7 HN0 HS HC1 HC2 q0 q1
          go_wp2
          go_roundw
          case rel => exact ⟨k + 1, by omega, by go_num, by first | exact congrArg (Value.int .i64) HSK.out | (rw [← HSK.out]), HBG.out, HE5.out, HS6.out⟩
          case measure => simp [intOf]; omega
      · have hE4 : E = (rawE (xo, xt, xr, xl) bound, k) := by rw [HEK2.out, if_pos hr]
        generalize rawE (xo, xt, xr, xl) bound = er at *
        generalize rawO (xo, xt, xr, xl) bound = ro at *
        generalize sizeTo (rawsL bound l) k = sz at *
        clear HEK2 HSS HTK HM5 hm5 hro
        have hR : RR = [] := by rw [HRR.out, rawsR, ← HEE.out, hE4, if_neg (by first | exact hr | simp)]
        subst hR hE4
        have hS6 := hS5.below ((Below.refl _ w5).alloc (Nat.le_refl _) (.cells #[.int .u16 ro, .slice a5 m5 c5] 114))
        obtain ⟨s0, s1, f0, f1⟩ := spot_store hS6
        have hB3 := two_put2 hS6.sbox (.int .i64 er) (.int .i64 (k : Int))
        have hBel := hS6.bel.trans ((two_below (w5.alloc (.cells #[.int .u16 ro, .slice a5 m5 c5] 114)) (w.heap.size + 1) (.int .i64 er) (.int .i64 (k : Int))).mono (by omega))
        have HB3 : Hid _ := hB3
        have HBel : Hid _ := hBel
        clear hS6 hS5 hS hbB hown5' hB3 hBel HRR HEE HV HOK
        go_wp2
        have hB3 := HB3.out
        have hBel := HBel.out
        clear HB3 HBel s0 s1 f0 f1
        generalize ((w5.alloc _).setCell _ _).setCell _ _ = W at hB3 hBel ⊢
        obtain ⟨hd, _⟩ := one_block hB3
        have d0 := hd 0
        have d1 := hd 1
        refine bodyPost_ret (v := .tuple #[.slice none 0 0, .agg #[.int .i64 er, .int .i64 (k : Int)]]) ?_ rfl ⟨hBel, none, 0, 0, rfl, rfl, Nat.le_refl _, rawsV_nil⟩
        simp [results, Try.results50, go_sem, d0, d1]
    · obtain rfl : k = n := by omega
      have hR : RR = rawsL bound (l.take k) := by
        rw [HRR.out, rawsR, ← HEE.out, HEK.out, shape_end bound l k _ (by rw [HL.out]; exact Nat.le_refl _), if_pos rfl, List.take_of_length_le (by rw [HL.out]; exact Nat.le_refl _)]
      have hE0 : E = (0, 0) := by rw [HEK.out, shape_end bound l k _ (by rw [HL.out]; exact Nat.le_refl _)]
      subst hR hE0
      obtain ⟨s0, s1, f0, f1⟩ := spot_store hS
      obtain ⟨cs, hown, hrow⟩ := hS.row
      rw [hlk] at hown
      have hcap : k ≤ cap' := by
        rcases hown.2 with ⟨h1, h2⟩ | ⟨g, c', cur, h1, _, _, h4, _⟩
        · omega
        · cases h1; exact h4
      have hB3 := two_put2 hS.sbox (.int .i64 0) (.int .i64 0)
      have hBel := hS.bel.trans ((two_below wr (w.heap.size + 1) (.int .i64 0) (.int .i64 0)).mono (by omega))
      have hV3 : RawsV ((wr.setCell ⟨w.heap.size + 1, 0, none⟩ (.int .i64 0)).setCell ⟨w.heap.size + 1, 1, none⟩ (.int .i64 0)) a' (rawsL bound (l.take k)) := by
        refine ((hrow.grown ((grown_setCell wr (w.heap.size + 1) 0 _).trans (grown_setCell _ (w.heap.size + 1) 1 _)) (fun g e => .inl (by cases e; omega))).own (own_apartly hown ((grown_setCell wr (w.heap.size + 1) 0 _).trans (grown_setCell _ (w.heap.size + 1) 1 _)) (fun g e => .inl (by cases e; omega))) hlk).view
      have HV3 : Hid _ := hV3
      clear hown hrow hV3 HOK HV HRR HEE HEK hA
      go_wp2
      generalize (wr.setCell ⟨w.heap.size + 1, 0, none⟩ (.int .i64 0)).setCell ⟨w.heap.size + 1, 1, none⟩ (.int .i64 0) = W at hB3 hBel HV3 ⊢
      obtain ⟨hd, _⟩ := one_block hB3
      have d0 := hd 0
      have d1 := hd 1
      refine bodyPost_ret (v := .tuple #[.slice a' k cap', .agg #[.int .i64 0, .int .i64 0]]) ?_ rfl ⟨hBel, a', cap', k, rfl, by first | exact hlk | rfl, hcap, HV3.out⟩
      simp [results, Try.results50, go_sem, d0, d1]

theorem raws_any (gen bound : Int) (a : Option Addr) (n cap : Nat) (l : List InstT) (w : World) (hg0 : 0 ≤ gen) (hg1 : gen < 4294967296) (hb0 : 0 ≤ bound) (hb1 : bound < 4294967296) (hv : InstsV w a l) (hok : InstsOk l) (hl : l.length = n) (hn : 40 * n ≤ 140737488351232) :
    Calls Try.prog 50 #[modV gen bound a n cap] w fun e w' => Below w.heap.size w w' ∧ ∃ ax cx m, e = .returned (.tuple #[.slice ax m cx, .agg #[.int .i64 (shapeE bound l).1, .int .i64 (shapeE bound l).2]]) ∧ (rawsR bound l).length = m ∧ m ≤ cx ∧ RawsV w' ax (rawsR bound l) := by
  by_cases h1 : bound = 0 ∨ 65536 < bound
  · exact raws_bad gen bound a n cap l w hg0 hg1 hb0 hb1 hv hok hl hn h1
  · exact raws_ok gen bound a n cap l w hg0 hg1 hb0 hb1 hv hok hl hn h1

end Go.Proofs.Ytmobologlaeefac

/-
  What byteAt of the words package returns, for every word and every place from 0 to 3.
-/
namespace Go.Proofs.Ytmobologlaeefac
open Go.RowKit
set_option maxRecDepth 10000

end Go.Proofs.Ytmobologlaeefac

/-
  What Join of the words package returns, for every list of words whose bytes take at most 2^47 - 4096: their bytes, in new memory.
-/
namespace Go.Proofs.Ytmobologlaeefac
open Go.RowKit
set_option maxRecDepth 10000

theorem Join.info_u8 : (Try.prog.info? 5).map (fun i => (i.zero, i.size, i.bytes)) = some (some (.int .u8 0), 1, 1) := by kernel_rfl

end Go.Proofs.Ytmobologlaeefac

/-
  What Shape and Encode of the package code answer, for every module.
-/
namespace Go.Proofs.Ytmobologlaeefac
open Go.RowKit
set_option linter.unusedVariables false
set_option linter.unusedSimpArgs false
set_option maxRecDepth 10000

/-- A module's bytes. -/
def encW (gen b : Int) (l : List InstT) : List Int := writeTo gen b (rawsL b l) l.length
def encL (gen b : Int) (l : List InstT) : List Int := if (shapeE b l).1 = 0 then joinL (encW gen b l) else []

theorem encW_within {gen b : Int} {l : List InstT} (hg0 : 0 ≤ gen) (hg1 : gen < 4294967296) (hb0 : 0 ≤ b) (hb1 : b < 4294967296) (hok : InstsOk l) : Within 4294967296 (encW gen b l) := by
  have := writeTo_within gen b hg0 hg1 hb0 hb1 (rawsL b l) (rawsL_ok b hok) (fun j hj => by rw [rawsL_len] at hj; rw [nthR_raws b l j hj]; exact rawWs_len _ _)
  rw [rawsL_len] at this
  exact this
theorem encW_len {gen b : Int} {l : List InstT} (h : (shapeE b l).1 = 0) : (encW gen b l).length ≤ 1048576 ∧ 5 ≤ (encW gen b l).length := by
  have h1 := writeTo_len gen b (rawsL b l) l.length (by rw [rawsL_len]; exact Nat.le_refl _)
  have h2 := shape_few h
  have h3 := sizeTo_ge (rawsL b l) l.length (by rw [rawsL_len]; exact Nat.le_refl _)
  unfold encW
  omega

set_option maxHeartbeats 2000000 in
theorem codeShape_any (gen bound : Int) (a : Option Addr) (n cap : Nat) (l : List InstT) (w : World) (hg0 : 0 ≤ gen) (hg1 : gen < 4294967296) (hb0 : 0 ≤ bound) (hb1 : bound < 4294967296) (hv : InstsV w a l) (hok : InstsOk l) (hl : l.length = n) (hn : 40 * n ≤ 140737488351232) :
    Calls Try.prog 29 #[modV gen bound a n cap] w fun e w' => e = .returned (.agg #[.int .i64 (shapeE bound l).1, .int .i64 (shapeE bound l).2]) ∧ Below w.heap.size w w' := by
  have hR := fun wx (hb : Below w.heap.size w wx) => raws_any gen bound a n cap l wx hg0 hg1 hb0 hb1 (hv.below hb) hok hl hn
  generalize (shapeE bound l).1 = e1 at *
  generalize (shapeE bound l).2 = e2 at *
  have HL : Hid (l.length = n) := hl
  unfold modV at *
  clear hv hok hl
  have hB0 : Below w.heap.size w ((w.alloc (.cells #[.int .u32 gen, .int .u32 bound, .slice a n cap] 25)).alloc (.cells #[.int .i64 0, .int .i64 0] 29)) := ((Below.refl _ w).alloc (Nat.le_refl _) _).alloc (by simp) _
  have hC := hR _ hB0
  have kX : ((w.alloc (.cells #[.int .u32 gen, .int .u32 bound, .slice a n cap] 25)).alloc (.cells #[.int .i64 0, .int .i64 0] 29)).heap[w.heap.size + 1]? = some (.cells #[.int .i64 0, .int .i64 0] 29 (0, 0)) := by simpa using alloc_new (w.alloc (.cells #[.int .u32 gen, .int .u32 bound, .slice a n cap] 25)) #[.int .i64 0, .int .i64 0] 29
  have HB0 : Hid _ := hB0
  have HX : Hid _ := kX
  clear hR hB0 kX
  go_enter Try.func29, Try.ntmps29
  go_wp2_with fail
  have hB0 := HB0.out
  have kX := HX.out
  clear HB0 HX
  generalize (w.alloc (.cells #[.int .u32 gen, .int .u32 bound, .slice a n cap] 25)).alloc (.cells #[.int .i64 0, .int .i64 0] 29) = W0 at *
  refine hC.mono ?_
  rintro e w1 ⟨hb1', ax, cx, m, rfl, hm, _, hV1⟩
  have l0 := (Array.getElem?_eq_some_iff.1 kX).1
  have s1 := hb1'.size
  have hb2 : Below W0.heap.size W0 (w1.alloc (.cells #[.int .i64 e1, .int .i64 e2] 29)) := hb1'.alloc s1 _
  have kX2 := (hb2.block _ l0).trans kX
  obtain ⟨d0, d1, _⟩ := cell_of_two (alloc_new w1 #[.int .i64 e1, .int .i64 e2] 29)
  obtain ⟨hcX, hfX⟩ := one_block kX2
  have c0 := hcX 0
  have c1 := hcX 1
  have f0 := hfX 0
  have f1 := hfX 1
  have hBel := hB0.trans (hb2.mono hB0.size)
  have hB3 := two_put2 kX2 (.int .i64 e1) (.int .i64 e2)
  have hBel2 := hBel.trans ((two_below (w1.alloc (.cells #[.int .i64 e1, .int .i64 e2] 29)) (w.heap.size + 1) (.int .i64 e1) (.int .i64 e2)).mono (by omega))
  have HB3 : Hid _ := hB3
  have HBel2 : Hid _ := hBel2
  have hne : w1.heap.size ≠ w.heap.size + 1 := by omega
  clear hC hb1' hb2 kX kX2 hcX hfX hB0 hBel hB3 hBel2 hV1 hm
  go_wp2
  have hB3 := HB3.out
  have hBel := HBel2.out
  clear HB3 HBel2 c0 c1 f0 f1 d0 d1
  generalize ((w1.alloc _).setCell _ _).setCell _ _ = W at hB3 hBel ⊢
  obtain ⟨hd, _⟩ := one_block hB3
  have d0 := hd 0
  have d1 := hd 1
  refine bodyPost_ret (v := .agg #[.int .i64 e1, .int .i64 e2]) ?_ rfl ⟨rfl, hBel⟩
  simp [results, Try.results29, go_sem, d0, d1]

end Go.Proofs.Ytmobologlaeefac

/-
  A frame as its slots: any frame of so many slots is the list of them.
-/
namespace Go.Proofs.Ytmobologlaeefac
open Go

theorem hide {p : Prop} (h : p) : Go.RowKit.Hid p := h
/-- What a slot holds. -/
def slot (t : Array Value) (i : Nat) : Value := t.getD i undef
theorem frame_eq (t : Array Value) (n : Nat) (h : t.size = n) : t = ((List.range n).map (slot t)).toArray := by
  apply Array.ext
  · simp [h]
  · intro i h1 h2
    simp [slot, Array.getD, h1]
theorem frame99 (t : Array Value) (h : t.size = 99) : t = #[slot t 0, slot t 1, slot t 2, slot t 3, slot t 4, slot t 5, slot t 6, slot t 7, slot t 8, slot t 9, slot t 10, slot t 11, slot t 12, slot t 13, slot t 14, slot t 15, slot t 16, slot t 17, slot t 18, slot t 19, slot t 20, slot t 21, slot t 22, slot t 23, slot t 24, slot t 25, slot t 26, slot t 27, slot t 28, slot t 29, slot t 30, slot t 31, slot t 32, slot t 33, slot t 34, slot t 35, slot t 36, slot t 37, slot t 38, slot t 39, slot t 40, slot t 41, slot t 42, slot t 43, slot t 44, slot t 45, slot t 46, slot t 47, slot t 48, slot t 49, slot t 50, slot t 51, slot t 52, slot t 53, slot t 54, slot t 55, slot t 56, slot t 57, slot t 58, slot t 59, slot t 60, slot t 61, slot t 62, slot t 63, slot t 64, slot t 65, slot t 66, slot t 67, slot t 68, slot t 69, slot t 70, slot t 71, slot t 72, slot t 73, slot t 74, slot t 75, slot t 76, slot t 77, slot t 78, slot t 79, slot t 80, slot t 81, slot t 82, slot t 83, slot t 84, slot t 85, slot t 86, slot t 87, slot t 88, slot t 89, slot t 90, slot t 91, slot t 92, slot t 93, slot t 94, slot t 95, slot t 96, slot t 97, slot t 98] := (frame_eq t 99 h).trans rfl

/-- What holds where a piece of code goes on. -/
def onNormal (K : Act → World → Prop) : Exit → Act → World → Prop
  | .normal, a, w => K a w
  | _, _, _ => False
theorem onNormal_normal (K : Act → World → Prop) (a : Act) (w : World) : onNormal K .normal a w = K a w := rfl
theorem wp_norm {P : Program} {c : Code} {Q : Exit → Act → World → Prop} {a : Act} {w : World} (h : c.wp P (onNormal (Q .normal)) a w) : c.wp P Q a w :=
  wp_mono h fun e a w h => by
    cases e with
    | normal => exact h
    | _ => exact False.elim h

end Go.Proofs.Ytmobologlaeefac

/-
  Contains of the package slices, of words: whether a word is among them.
-/
namespace Go.Proofs.Ytmobologlaeefac
open Go.RowKit
set_option linter.unusedVariables false
set_option linter.unusedSimpArgs false
set_option maxRecDepth 10000

theorem mem_take_nth {zs : List Int} {x : Int} {k : Nat} (hk : k < zs.length) : x ∈ zs.take (k + 1) ↔ x ∈ zs.take k ∨ nth zs k = x := by
  rw [List.take_add_one, List.getElem?_eq_getElem hk, List.mem_append]
  have : nth zs k = zs[k] := by unfold nth; simp [List.getD, hk]
  rw [this]
  simp [eq_comm]

set_option maxHeartbeats 1000000 in
theorem index32_any (a : Option Addr) (n cap : Nat) (zs : List Int) (x : Int) (w : World) (ha : View .u32 w a zs) (hl : zs.length = n) (hn : n ≤ 140737488351232) :
    Calls Try.prog 52 #[.slice a n cap, .int .u32 x] w fun e w' => (∃ i : Int, e = .returned (.int .i64 i) ∧ (0 ≤ i ↔ x ∈ zs)) ∧ w = w' := by
  have HL := hide hl
  have HM : Hid (∀ k, k < n → (x ∈ zs.take (k + 1) ↔ x ∈ zs.take k ∨ nth zs k = x)) := fun k hk => mem_take_nth (by rw [HL.out]; exact hk)
  have HT : Hid (zs.take n = zs) := List.take_of_length_le (by rw [HL.out]; exact Nat.le_refl _)
  have HS : Hid (∀ k, x ∈ zs.take k → x ∈ zs) := fun k h => List.mem_of_mem_take h
  clear hl
  go_enter Try.func52, Try.ntmps52
  go_wp2_with fail
  go_loopw [8] (fun i wr => ∃ k : Nat, k ≤ n ∧ i = .int .i64 k ∧ ¬ x ∈ zs.take k ∧ wr = w) (fun i _ => n - (intOf i).toNat)
  case atStart => exact ⟨0, Nat.zero_le _, rfl, by simp, rfl⟩
  case round =>
    obtain ⟨k, hk, rfl, hnot, rfl⟩ := hrel
    by_cases hlt : k < n
    · obtain ⟨b1, o1, rfl, _, c1⟩ := ha k (by rw [HL.out]; exact hlt)
      have hk0 : (0 : Int) ≤ (k : Int) := by omega
      have hki : (k : Int) < (n : Int) := by omega
      have hm := HM.out k hlt
      clear ha
      generalize nth zs k = y at *
      by_cases hy : y = x
      · have HX := hide (HS.out (k + 1) (hm.2 (.inr hy)))
        subst hy
        have hyy : (y == y) = true := by simp
        clear hm hnot
        go_wp2_with fail
        go_ret
        exact ⟨⟨k, rfl, fun _ => HX.out, fun _ => by omega⟩, rfl⟩
      · have hyy : (x == y) = false := by simpa using fun e => hy (Eq.symm e)
        have hyz : (y == x) = false := by simpa using hy
        have HX : Hid (¬ x ∈ zs.take (k + 1)) := fun h => by rcases hm.1 h with h | h; exact hnot h; exact hy h
        clear hm hnot hy
        go_wp2_with fail
        go_roundw
        case rel => exact ⟨k + 1, by omega, by go_num, HX.out, by first | rfl | trivial⟩
        case measure => simp [intOf]; omega
    · obtain rfl : k = n := by omega
      rw [HT.out] at hnot
      have HX := hide hnot
      clear ha hnot
      go_wp2_with fail
      go_ret
      exact ⟨⟨-1, rfl, fun h => by omega, fun h => absurd h HX.out⟩, rfl⟩

set_option maxHeartbeats 1000000 in
theorem contains32_any (a : Option Addr) (n cap : Nat) (zs : List Int) (x : Int) (w : World) (ha : View .u32 w a zs) (hl : zs.length = n) (hn : n ≤ 140737488351232) :
    Calls Try.prog 33 #[.slice a n cap, .int .u32 x] w fun e w' => e = .returned (.bool (decide (x ∈ zs))) ∧ w = w' := by
  have hI := fun wx (h : View .u32 wx a zs) => index32_any a n cap zs x wx h hl hn
  have hI' := hI w ha
  generalize hr : decide (x ∈ zs) = r at *
  have HR : Hid (r = true ↔ x ∈ zs) := by show _ ↔ _; rw [← hr]; simp
  clear hI ha hl hr
  go_enter Try.func33, Try.ntmps33
  go_wp2_with fail
  refine hI'.mono ?_
  rintro e w1 ⟨⟨i, rfl, hi⟩, rfl⟩
  have HI := hide hi
  clear hI' hi
  cases r with
  | true =>
    have h0 : (0 : Int) ≤ i := HI.out.2 (HR.out.1 rfl)
    go_wp2_with fail
    go_ret
    exact ⟨rfl, rfl⟩
  | false =>
    have h0 : ¬ (0 : Int) ≤ i := fun h => by have := HR.out.2 (HI.out.1 h); cases this
    have h0' : decide ((0 : Int) ≤ i) = false := by simpa using h0
    clear h0
    go_wp2_with fail
    go_ret
    exact ⟨rfl, rfl⟩

end Go.Proofs.Ytmobologlaeefac

/-
  What Letter of the document's answer returns, for every operation and number.
-/
namespace Go.Proofs.Ytmobologlaeefac
open Go.RowKit
set_option maxRecDepth 10000
set_option linter.unusedVariables false
set_option linter.unusedSimpArgs false

theorem ofV_look (n : Int) : ∃ m, ofV n = formV m (lookF refT n).1 := by
  unfold ofV
  cases h : (lookF refT n).2
  · rw [(lookF_false h).1]; exact ⟨0, rfl⟩
  · exact ⟨n, rfl⟩

theorem letterI_none (i : Int) : letterI noFrm i = 0 := by
  unfold letterI
  split
  · rfl
  · split
    · rename_i h1 h2
      have : (noFrm.2.2.2.1.size : Int) = 0 := rfl
      omega
    · have : mayB noFrm (i - noFrm.2.2.2.1.size) = false := rfl
      rw [this]; rfl

set_option maxRecDepth 10000 in
set_option maxHeartbeats 2000000 in
theorem refLetter_any (n i : Int) (w : World) (h1 : i < 9223372036854775808) :
    Calls Try.prog 63 #[.int .u16 n, .int .i64 i] w fun e w' => e = .returned (.int .u8 (letterI (lookF refT n).1 i)) ∧ Below w.heap.size w w' := by
  have hR := fun w => refOf_any n w
  obtain ⟨m, hm⟩ := ofV_look n
  rw [hm] at hR
  clear hm
  have hs := look_short n
  have HN : Hid ((lookF refT n).2 = false → (lookF refT n).1 = noFrm) := fun h => by rw [(lookF_false h).1]
  generalize (lookF refT n).1 = f at *
  generalize (lookF refT n).2 = is at *
  have HL : Hid (∃ x, x = letterI f i) := ⟨_, rfl⟩
  have hs2 := hs
  simp only [shortF, Bool.and_eq_true, decide_eq_true_eq] at hs
  obtain ⟨⟨⟨s1, s2⟩, s3⟩, s4⟩ := hs
  obtain ⟨nm, t, r, fx, rs, mo, pa⟩ := f
  simp only at s1 s2 s3 s4
  clear hs2 HL
  cases is
  · have HE : Hid (letterI (nm, t, r, fx, rs, mo, pa) i = 0) := by show _ = _; rw [HN.out rfl]; exact letterI_none i
    clear HN
    unfold formV at hR
    go_enter Try.func63, Try.ntmps63
    go_wp2_with fail
    refine (hR _).mono ?_
    rintro e w1 ⟨rfl, hb⟩
    clear hR
    go_wp2
    go_ret
    exact ⟨by rw [HE.out]; rfl, hb.alloc hb.size _⟩
  · clear HN
    by_cases hi : i < 0
    · have HE : Hid (letterI (nm, t, r, fx, rs, mo, pa) i = 0) := by show _ = _; unfold letterI; rw [if_pos hi]
      unfold formV at hR
      go_enter Try.func63, Try.ntmps63
      go_wp2_with fail
      refine (hR _).mono ?_
      rintro e w1 ⟨rfl, hb⟩
      clear hR
      go_wp2
      go_ret
      exact ⟨by rw [HE.out]; rfl, hb.alloc hb.size _⟩
    · have hid : decide (i < 0) = false := by simpa using hi
      obtain ⟨k, rfl⟩ := Int.eq_ofNat_of_zero_le (show 0 ≤ i by omega)
      by_cases hx : (k : Int) < fx.size
      · have HE : Hid (letterI (nm, t, r, fx, rs, mo, pa) k = sgn fx k) := by show _ = _; unfold letterI; rw [if_neg hi, if_pos hx, Int.toNat_natCast]
        have hk : k < fx.size := by omega
        have hsg := sgn_at fx k hk
        unfold formV at hR
        go_enter Try.func63, Try.ntmps63
        go_wp2_with fail
        refine (hR _).mono ?_
        rintro e w1 ⟨rfl, hb⟩
        clear hR
        go_wp2
        go_ret
        exact ⟨by rw [HE.out]; rfl, hb.alloc hb.size _⟩
      · by_cases hr : rs.size = 0
        · have HE : Hid (letterI (nm, t, r, fx, rs, mo, pa) k = 0) := by show _ = _; unfold letterI; rw [if_neg hi, if_neg hx]; simp [mayB, hr]
          have hrz : (((rs.size : Nat) : Int) == 0) = true := by simp [hr]
          have hxd : ¬ k < fx.size := by omega
          clear hr hx hi h1 s3 s4 s1 s2
          unfold formV at hR
          go_enter Try.func63, Try.ntmps63
          go_wp2_with fail
          refine (hR _).mono ?_
          rintro e w1 ⟨rfl, hb⟩
          clear hR
          go_wp2
          go_ret
          exact ⟨by rw [HE.out]; rfl, hb.alloc hb.size _⟩
        · have hrz : (((rs.size : Nat) : Int) == 0) = false := by simp [hr]
          have hr0 : (0 : Int) < (rs.size : Int) := by omega
          have hz : ¬ (rs.size : Int) = 0 := by omega
          obtain ⟨b, hb⟩ : ∃ b : Nat, (k : Int) - (fx.size : Int) = b := ⟨k - fx.size, by omega⟩
          have hw1 : IntKind.i64.wrap ((k : Int) - (fx.size : Int)) = b := by rw [hb]; exact wrapI _ (by omega) (by omega)
          have hbl : (b : Int) < 9223372036854775808 := by omega
          have ht : Int.tdiv (b : Int) (rs.size : Int) = (b : Int) / (rs.size : Int) := Int.tdiv_eq_ediv_of_nonneg (by omega)
          have hq0 : 0 ≤ (b : Int) / (rs.size : Int) := Int.ediv_nonneg (by omega) (by omega)
          have hq1 : (b : Int) / (rs.size : Int) ≤ b := Int.ediv_le_self _ (by omega)
          have hw : IntKind.i64.wrap ((b : Int) / (rs.size : Int)) = (b : Int) / (rs.size : Int) := wrapI _ (by omega) (by omega)
          have HM : Hid (mayB (nm, t, r, fx, rs, mo, pa) b = if mo = 0 then true else decide ((b : Int) / (rs.size : Int) < mo)) := by show _ = _; simp [mayB, hr]
          have tm : Int.tmod (b : Int) (rs.size : Int) = (b : Int) % (rs.size : Int) := Int.tmod_eq_emod_of_nonneg (by omega)
          have m0 : 0 ≤ (b : Int) % (rs.size : Int) := Int.emod_nonneg _ hz
          have m1 : (b : Int) % (rs.size : Int) < (rs.size : Int) := Int.emod_lt_of_pos _ hr0
          have hw2 : IntKind.i64.wrap ((b : Int) % (rs.size : Int)) = (b : Int) % (rs.size : Int) := wrapI _ (by omega) (by omega)
          have HE : Hid (letterI (nm, t, r, fx, rs, mo, pa) k = if mayB (nm, t, r, fx, rs, mo, pa) b then sgn rs ((b : Int) % (rs.size : Int)).toNat else 0) := by show _ = _; unfold letterI; rw [if_neg hi, if_neg hx]; simp only [hb]
          by_cases hc : mo > 0 ∧ (b : Int) / (rs.size : Int) ≥ mo
          · have HF : Hid (letterI (nm, t, r, fx, rs, mo, pa) k = 0) := by show _ = _; rw [HE.out, HM.out, if_neg (show ¬ mo = 0 by omega), decide_eq_false (by omega)]; rfl
            clear HE HM tm m0 m1 hw2 hb
            have hxd : ¬ k < fx.size := by omega
            obtain ⟨hc1, hc2⟩ := hc
            clear hx hi hr h1 hbl s1 s2 hq1
            have g1 : decide (mo > 0) = true := by simpa using hc1
            have g2 : decide (mo ≤ (b : Int) / (rs.size : Int)) = true := by simpa using hc2
            unfold formV at hR
            go_enter Try.func63, Try.ntmps63
            go_wp2_with fail
            refine (hR _).mono ?_
            rintro e w1 ⟨rfl, hb⟩
            clear hR
            go_wp2
            go_quiet (fail)
            go_wp2
            go_ret
            exact ⟨by rw [HF.out]; rfl, bel_drewN (hb.alloc hb.size _) _⟩
          · have hmb : mayB (nm, t, r, fx, rs, mo, pa) b = true := by
              rw [HM.out]
              split
              · rfl
              · exact decide_eq_true (by omega)
            obtain ⟨j, hj⟩ := Int.eq_ofNat_of_zero_le m0
            have HF : Hid (letterI (nm, t, r, fx, rs, mo, pa) k = sgn rs j) := by show _ = _; rw [HE.out, hmb, if_pos rfl, hj]; rfl
            rw [hj] at tm hw2
            have hjl : j < rs.size := by omega
            have hsg := sgn_at rs j hjl
            have hxd : ¬ k < fx.size := by omega
            clear HE HM hmb hb hj m0 m1
            by_cases g1 : mo > 0
            · have g2 : decide (mo ≤ (b : Int) / (rs.size : Int)) = false := decide_eq_false (by omega)
              have g1' : decide (mo > 0) = true := decide_eq_true g1
              clear hx hi hr h1 hbl s1 s2 hq1 hc g1
              unfold formV at hR
              go_enter Try.func63, Try.ntmps63
              go_wp2_with fail
              refine (hR _).mono ?_
              rintro e w1 ⟨rfl, hb⟩
              clear hR
              go_wp2
              go_quiet (fail)
              go_wp2
              go_quiet (fail)
              go_wp2
              go_ret
              exact ⟨by rw [HF.out]; rfl, bel_drewN (bel_drewN (hb.alloc hb.size _) _) _⟩
            · have g1' : decide (mo > 0) = false := decide_eq_false g1
              clear hx hi hr h1 hbl s1 s2 hq1 hc g1 s3 s4
              unfold formV at hR
              go_enter Try.func63, Try.ntmps63
              go_wp2_with fail
              refine (hR _).mono ?_
              rintro e w1 ⟨rfl, hb⟩
              clear hR
              go_wp2
              go_quiet (fail)
              go_wp2
              go_quiet (fail)
              go_wp2
              go_ret
              exact ⟨by rw [HF.out]; rfl, bel_drewN (bel_drewN (hb.alloc hb.size _) _) _⟩

end Go.Proofs.Ytmobologlaeefac
