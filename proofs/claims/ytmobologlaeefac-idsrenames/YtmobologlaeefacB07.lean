/-
  Texts laid together in one: MathC, CodeIds, MathU, KitInst, KitModule, MathF, Rdr, KitWords, Law02Raws, KitSpoilWords.
-/
import Derived.Test.YtmobologlaeefacB06
import Derived.WalkSpells
import Derived.WalkMore
import Derived.Laws.AppendOwn
import Derived.Test.YtmobologlaeefacB01
import Derived.KernelRfl
import Derived.Deep.QuietTactic
import Derived.BigQuiet
import Derived.Test.YtmobologlaeefacProg
import Derived.BigRegion
import Derived.Deep.RegionWith
import Derived.Deep.DrawnRows
import Derived.Maps.AppendAt
import Derived.Maps.Range
import Derived.OneCell
/-
  Plain facts on modules as words: the first instruction that is wrong, and all instructions' words.
-/
namespace Go.Proofs.Ytmobologlaeefac
open Go.RowKit
set_option linter.unusedVariables false

/-- The first instruction that is wrong, or that has too many words. -/
def shapeF (b : Int) : Nat → Nat → List InstT → Int × Nat
  | _, _, [] => (0, 0)
  | k, c, x :: l => if rawE x b ≠ 0 then (rawE x b, k) else if 1048576 < c + 1 + (rawWs x b).length then (4, k) else shapeF b (k + 1) (c + 1 + (rawWs x b).length) l
def shapeE (b : Int) (l : List InstT) : Int × Nat := if b = 0 ∨ 65536 < b then (24, 0) else shapeF b 0 5 l
/-- A module's instructions as words. -/
def rawsL (b : Int) (l : List InstT) : List (Int × List Int) := l.map fun x => (x.1, rawWs x b)
/-- What raws answers. -/
def rawsR (b : Int) (l : List InstT) : List (Int × List Int) := if (shapeE b l).1 = 0 then rawsL b l else []

theorem rawsL_len (b : Int) (l : List InstT) : (rawsL b l).length = l.length := by simp [rawsL]
theorem nthR_raws (b : Int) (l : List InstT) (k : Nat) (h : k < l.length) : nthR (rawsL b l) k = ((nthI l k).1, rawWs (nthI l k) b) := by
  rw [nthI_lt _ _ h]; simp [nthR, rawsL, List.getD, h]
theorem rawsL_take (b : Int) (l : List InstT) (k : Nat) (h : k < l.length) : rawsL b (l.take (k + 1)) = rawsL b (l.take k) ++ [((nthI l k).1, rawWs (nthI l k) b)] := by
  unfold rawsL
  rw [List.take_add_one, List.getElem?_eq_getElem h, nthI_lt _ _ h, List.map_append]; rfl
theorem dropI (l : List InstT) (k : Nat) (h : k < l.length) : l.drop k = nthI l k :: l.drop (k + 1) := by
  rw [nthI_lt _ _ h]; exact List.drop_eq_getElem_cons h

theorem shape_end (b : Int) (l : List InstT) (k c : Nat) (h : l.length ≤ k) : shapeF b k c (l.drop k) = (0, 0) := by
  rw [List.drop_eq_nil_of_le h]; rfl
theorem shape_step (b : Int) (l : List InstT) (k : Nat) (h : k < l.length) : shapeF b k (sizeTo (rawsL b l) k) (l.drop k) = if rawE (nthI l k) b ≠ 0 then (rawE (nthI l k) b, k) else if 1048576 < sizeTo (rawsL b l) (k + 1) then (4, k) else shapeF b (k + 1) (sizeTo (rawsL b l) (k + 1)) (l.drop (k + 1)) := by
  rw [dropI l k h, shapeF, sizeTo_succ (rawsL b l) k (by rw [rawsL_len]; exact h), nthR_raws b l k h]
theorem shape_any (b : Int) : ∀ (l : List InstT) (k c : Nat), shapeF b k c l = (0, 0) ∨ (shapeF b k c l).1 ≠ 0
  | [], _, _ => .inl rfl
  | x :: l, k, c => by
    rw [shapeF]
    by_cases h1 : rawE x b ≠ 0
    · rw [if_pos h1]; exact .inr h1
    · rw [if_neg h1]
      split
      · exact .inr (by simp)
      · exact shape_any b l _ _
theorem shapeE_any (b : Int) (l : List InstT) : shapeE b l = (0, 0) ∨ (shapeE b l).1 ≠ 0 := by
  unfold shapeE
  split
  · exact .inr (by decide)
  · exact shape_any b l 0 5

theorem rawWs_ok {x : InstT} {b : Int} (h : rawE x b = 0) : (lookF refT x.1).2 = true ∧ faultI (lookF refT x.1).1 x b = 0 ∧ rawWs x b = rawL (lookF refT x.1).1 x := by
  have h1 := h
  unfold rawE at h1
  by_cases h2 : (lookF refT x.1).2 = true
  · rw [if_pos h2] at h1
    exact ⟨h2, h1, by unfold rawWs; rw [if_pos h]⟩
  · rw [if_neg h2] at h1; cases h1
theorem faultI_zero {f : Frm} {x : InstT} {b : Int} (h : faultI f x b = 0) : idE f.2.1 x.2.1 b 40 = 0 ∧ idE f.2.2.1 x.2.2.1 b 41 = 0 ∧ wrongL f b 0 x.2.2.2 = 0 ∧ wholeN f x.2.2.2.length = true ∧ 1 + (rawL f x).length ≤ 65535 := by
  unfold faultI at h
  by_cases h1 : idE f.2.1 x.2.1 b 40 = 0
  · rw [if_neg (by simp [h1])] at h
    by_cases h2 : idE f.2.2.1 x.2.2.1 b 41 = 0
    · rw [if_neg (by simp [h2])] at h
      by_cases h3 : wrongL f b 0 x.2.2.2 = 0
      · rw [if_neg (by simp [h3])] at h
        by_cases h4 : wholeN f x.2.2.2.length = true
        · rw [if_neg (by simp [h4])] at h
          by_cases h5 : 65535 < 1 + (rawL f x).length
          · rw [if_pos h5] at h; cases h
          · exact ⟨h1, h2, h3, h4, by omega⟩
        · rw [if_pos (by simpa using h4)] at h; cases h
      · rw [if_pos h3] at h; exact absurd h h3
    · rw [if_pos h2] at h; exact absurd h h2
  · rw [if_pos h1] at h; exact absurd h h1
theorem rawWs_len (x : InstT) (b : Int) : (rawWs x b).length < 65535 := by
  by_cases h : rawE x b = 0
  · obtain ⟨_, h2, h3⟩ := rawWs_ok h
    have := (faultI_zero h2).2.2.2.2
    rw [h3]; omega
  · rw [rawWs, if_neg h]; simp

theorem wordsL_within {l : List ArgT} (h : ArgsOk l) : Within 4294967296 (wordsL l) := by
  intro z hz
  obtain ⟨x, hx, hzx⟩ := List.mem_flatMap.1 hz
  obtain ⟨k, hk, rfl⟩ := List.mem_iff_getElem.1 hx
  have ho := h k hk
  rw [nthA_lt _ _ hk] at ho
  unfold wordsA at hzx
  split at hzx
  · exact textW_within _ z hzx
  · rw [List.mem_singleton] at hzx; subst hzx
    exact ⟨ho.2.2.1, ho.2.2.2.1⟩
theorem rawWs_within {x : InstT} (b : Int) (h : InstOk x) : Within 4294967296 (rawWs x b) := by
  unfold rawWs
  split
  · refine within_append ?_ (wordsL_within h.2.2.2.2.2.2.1)
    unfold headW
    refine within_append ?_ ?_
    · split
      · exact within_one h.2.2.1 h.2.2.2.1
      · exact within_nil
    · split
      · exact within_one h.2.2.2.2.1 h.2.2.2.2.2.1
      · exact within_nil
  · exact within_nil
theorem rawsL_ok (b : Int) {l : List InstT} (h : InstsOk l) : RawsOk (rawsL b l) := by
  intro j hj
  rw [rawsL_len] at hj
  rw [nthR_raws b l j hj]
  have ho := h j hj
  refine ⟨ho.1, ho.2.1, rawWs_within b ho, ?_⟩
  have := rawWs_len (nthI l j) b
  simp only
  omega
theorem rawsR_ok (b : Int) {l : List InstT} (h : InstsOk l) : RawsOk (rawsR b l) := by
  unfold rawsR
  split
  · exact rawsL_ok b h
  · intro j hj; simp at hj

theorem fault_shapeF (b : Int) (l : List InstT) : ∀ d k, l.length - k = d → (shapeF b k (sizeTo (rawsL b l) k) (l.drop k)).1 = 0 → fault (rawsL b l) k = (0, 0)
  | 0, k, hd, _ => fault_end _ _ (by rw [rawsL_len]; omega)
  | d + 1, k, hd, h => by
    have hk : k < l.length := by omega
    rw [shape_step b l k hk] at h
    rw [fault_step _ _ (by rw [rawsL_len]; exact hk), nthR_raws b l k hk]
    have hs := rawWs_len (nthI l k) b
    rw [if_neg (by simp only; omega)]
    by_cases h1 : rawE (nthI l k) b ≠ 0
    · rw [if_pos h1] at h; exact absurd h h1
    · rw [if_neg h1] at h
      by_cases h2 : 1048576 < sizeTo (rawsL b l) (k + 1)
      · rw [if_pos h2] at h; cases h
      · rw [if_neg h2] at h ⊢
        exact fault_shapeF b l d (k + 1) (by omega) h
theorem fault_shape {b : Int} {l : List InstT} (h : (shapeE b l).1 = 0) : fault (rawsL b l) 0 = (0, 0) := by
  unfold shapeE at h
  by_cases h1 : b = 0 ∨ 65536 < b
  · rw [if_pos h1] at h; cases h
  · rw [if_neg h1] at h
    exact fault_shapeF b l _ 0 rfl h
theorem shape_bound {b : Int} {l : List InstT} (h : (shapeE b l).1 = 0) : ¬ b = 0 ∧ ¬ 65536 < b := by
  unfold shapeE at h
  by_cases h1 : b = 0 ∨ 65536 < b
  · rw [if_pos h1] at h; cases h
  · exact ⟨fun h => h1 (.inl h), fun h => h1 (.inr h)⟩
theorem shape_each {b : Int} {l : List InstT} (h : (shapeE b l).1 = 0) (k : Nat) (hk : k < l.length) : rawE (nthI l k) b = 0 := by
  have key : ∀ (l : List InstT) (i c k : Nat), (shapeF b i c l).1 = 0 → k < l.length → rawE (nthI l k) b = 0 := by
    intro l
    induction l with
    | nil => intro i c k _ hk; simp at hk
    | cons x l ih =>
      intro i c k h hk
      rw [shapeF] at h
      by_cases h1 : rawE x b ≠ 0
      · rw [if_pos h1] at h; exact absurd h h1
      · rw [if_neg h1] at h
        cases k with
        | zero => exact Classical.not_not.1 h1
        | succ k =>
          split at h
          · cases h
          · exact ih _ _ k h (by simpa using hk)
  unfold shapeE at h
  by_cases h1 : b = 0 ∨ 65536 < b
  · rw [if_pos h1] at h; cases h
  · rw [if_neg h1] at h
    exact key l 0 5 k h hk
theorem sizeTo_ge (rs : List (Int × List Int)) : ∀ k, k ≤ rs.length → 5 + k ≤ sizeTo rs k
  | 0, _ => by rw [sizeTo_zero]; omega
  | k + 1, h => by rw [sizeTo_succ rs k (by omega)]; have := sizeTo_ge rs k (by omega); omega
/-- A module of good shape has few instructions. -/
theorem shape_few {b : Int} {l : List InstT} (h : (shapeE b l).1 = 0) : l.length ≤ 1048576 ∧ sizeTo (rawsL b l) l.length ≤ 1048576 := by
  have h1 := fault_none (rawsL b l) (by rw [fault_shape h]) l.length (by rw [rawsL_len]; exact Nat.le_refl _)
  have := sizeTo_ge (rawsL b l) l.length (by rw [rawsL_len]; exact Nat.le_refl _)
  omega

end Go.Proofs.Ytmobologlaeefac

/-
  What Ids of the package code answers, for every instruction.
-/
namespace Go.Proofs.Ytmobologlaeefac
open Go.RowKit
set_option linter.unusedVariables false
set_option linter.unusedSimpArgs false
set_option maxRecDepth 10000

def idsA (x : ArgT) : List Int := if x.1 = 1 then [x.2.1] else []
/-- The ids that an instruction names, up to an argument. -/
def idsTo (t : Int) (l : List ArgT) (k : Nat) : List Int := (if t = 0 then [] else [t]) ++ (l.take k).flatMap idsA
def idsI (x : InstT) : List Int := idsTo x.2.1 x.2.2.2 x.2.2.2.length

theorem idsTo_zero (t : Int) (l : List ArgT) : idsTo t l 0 = if t = 0 then [] else [t] := by simp [idsTo]
theorem idsTo_succ (t : Int) (l : List ArgT) (k : Nat) (h : k < l.length) : idsTo t l (k + 1) = idsTo t l k ++ idsA (nthA l k) := by
  unfold idsTo
  rw [List.take_add_one, List.getElem?_eq_getElem h, nthA_lt _ _ h, Option.toList_some, List.flatMap_append]
  simp [List.append_assoc]
theorem idsTo_len (t : Int) (l : List ArgT) (k : Nat) : (idsTo t l k).length ≤ 1 + k := by
  unfold idsTo
  have h1 : ((l.take k).flatMap idsA).length ≤ (l.take k).length := by
    generalize l.take k = m
    induction m with
    | nil => simp
    | cons x m ih =>
      rw [List.flatMap_cons, List.length_append, List.length_cons]
      have : (idsA x).length ≤ 1 := by unfold idsA; split <;> simp
      omega
  have h2 : (l.take k).length ≤ k := by rw [List.length_take]; omega
  rw [List.length_append]
  have h3 : (if t = 0 then [] else [t] : List Int).length ≤ 1 := by split <;> simp
  omega

theorem Ids.info : (Try.prog.info? 22).map (fun i => (i.zero, i.size, i.bytes)) = some (some (.int .u32 0), 1, 4) := by kernel_rfl

/-- A row of words while it is built, behind a box. -/
structure IdsS (w wr : World) (xo xt xr : Int) (ax : Option Addr) (n cx : Nat) (v : Value) (zs : List Int) : Prop where
  own : wr.ownsRow (w.heap.size + 1) 22 1 v zs.length (zs.map (Value.int .u32))
  box : wr.heap[w.heap.size]? = some (.cells #[.int .u16 xo, .int .u32 xt, .int .u32 xr, .slice ax n cx] 51 (0, 0))
  bel : Below w.heap.size w wr

theorem IdsS.below {w wr wr' : World} {xo xt xr : Int} {ax : Option Addr} {n cx : Nat} {v : Value} {zs : List Int} (h : IdsS w wr xo xt xr ax n cx v zs) (hb : Below wr.heap.size wr wr') : IdsS w wr' xo xt xr ax n cx v zs :=
  ⟨own_below h.own hb, (hb.block _ (Array.getElem?_eq_some_iff.1 h.box).1).trans h.box, h.bel.trans (hb.mono h.bel.size)⟩
/-- Behind an append of one word that lies in a new block. -/
theorem IdsS.push {w wr w5 : World} {xo xt xr : Int} {ax : Option Addr} {n cx : Nat} {v v' : Value} {zs : List Int} {y : Int} (h : IdsS w wr xo xt xr ax n cx v zs) (hg : wr.grownBy w5 v.ownBlock) (hown : w5.ownsRow (w.heap.size + 1) 22 1 v' (zs.length + 1) (zs.map (Value.int .u32) ++ [.int .u32 y])) : IdsS w w5 xo xt xr ax n cx v' (zs ++ [y]) := by
  have hlo : ∀ g, v.ownBlock = some g → w.heap.size + 1 ≤ g := fun g e => (h.own.lt g e).1
  refine ⟨?_, ?_, ?_⟩
  · rw [List.length_append, List.map_append]; exact hown
  · exact (hg.block _ (Array.getElem?_eq_some_iff.1 h.box).1 (fun e => by have := hlo _ e.symm; omega)).trans h.box
  · exact h.bel.grown hg h.bel.size (fun k e => by have := hlo k e; omega)

set_option maxHeartbeats 2000000 in
theorem codeIds_any (x : InstT) (ax : Option Addr) (n cx : Nat) (w : World) (hv : ArgsV w ax x.2.2.2) (hl : x.2.2.2.length = n) (hn : 24 * n ≤ 140737488351232) :
    Calls Try.prog 34 #[instV x ax n cx] w fun e w' => Below w.heap.size w w' ∧ ∃ a m c, e = .returned (.slice a m c) ∧ (idsI x).length = m ∧ w'.ownsRow w.heap.size 22 1 (.slice a m c) m ((idsI x).map (Value.int .u32)) := by
  obtain ⟨i0, hi, hz0, hz1, hz2⟩ := info_parts Ids.info
  have HI : Hid (Try.prog.info? 22 = some i0 ∧ i0.zero = some (.int .u32 0) ∧ i0.size = 1 ∧ i0.bytes = 4) := ⟨hi, hz0, hz1, hz2⟩
  clear hi hz0 hz1 hz2
  obtain ⟨xo, xt, xr, xl⟩ := x
  unfold instV
  simp only at *
  have HL : Hid (xl.length = n) := hl
  have eI : idsI (xo, xt, xr, xl) = idsTo xt xl n := by unfold idsI; simp only; rw [hl]
  rw [eI]
  clear eI hl
  have hS0 : IdsS w (w.alloc (.cells #[.int .u16 xo, .int .u32 xt, .int .u32 xr, .slice ax n cx] 51)) xo xt xr ax n cx (.slice none 0 0) [] := ⟨World.ownsRow_nil _ _ _ _, alloc_new w _ _, (Below.refl _ w).alloc (Nat.le_refl _) _⟩
  by_cases ht : xt = 0
  · subst ht
    have HS0 : Hid (IdsS w (w.alloc (.cells #[.int .u16 xo, .int .u32 0, .int .u32 xr, .slice ax n cx] 51)) xo 0 xr ax n cx (.slice none 0 0) []) := hS0
    clear hS0
    go_enter Try.func34, Try.ntmps34
    go_wp2
    go_loopw [3, 17] (fun v i wr => ∃ k : Nat, k ≤ n ∧ i = .int .i64 k ∧ IdsS w wr xo 0 xr ax n cx v (idsTo 0 xl k)) (fun _ i _ => n - (intOf i).toNat)
    case atStart => exact ⟨0, Nat.zero_le _, rfl, by rw [idsTo_zero, if_pos rfl]; exact HS0.out⟩
    case round =>
      obtain ⟨k, hk, rfl, hS⟩ := hrel
      clear HS0
      have hA := hv.below hS.bel
      obtain ⟨a', cap', rfl⟩ : ∃ a cap, u3 = .slice a (idsTo 0 xl k).length cap := by
        rcases hS.own.2 with ⟨rfl, h0⟩ | ⟨g, cap, cur, rfl, _⟩
        · exact ⟨none, 0, by rw [h0]⟩
        · exact ⟨_, _, rfl⟩
      by_cases hlt : k < n
      · have hkl : k < xl.length := by rw [HL.out]; exact hlt
        obtain ⟨b1, o1, rfl, hb1, p1, p2, p3⟩ := hA k hkl
        have hsu := idsTo_succ 0 xl k hkl
        have hln := idsTo_len 0 xl k
        have HSU : Hid _ := hsu
        generalize idsTo 0 xl k = zs at *
        have HS2 : Hid (idsTo 0 xl (k + 1) = zs ++ idsA (nthA xl k)) := HSU.out
        clear hsu HSU
        generalize nthA xl k = z at *
        obtain ⟨z1, z2, z3⟩ := z
        simp only at *
        have hki : (k : Int) < (n : Int) := by omega
        have hk0 : (0 : Int) ≤ (k : Int) := by omega
        have hS4 := hS.below ((Below.refl _ wr).alloc (Nat.le_refl _) (.cells #[.int .u8 z1, .int .u32 z2, .string z3] 63))
        clear hA
        by_cases h1 : z1 = 1
        · subst h1
          have hA1 : idsA (1, z2, z3) = [z2] := by simp [idsA]
          have N1 : Hid (((wr.alloc (.cells #[.int .u8 1, .int .u32 z2, .string z3] 63)).alloc (.cells #[.int .u32 z2] 22)).ownsRow (w.heap.size + 1) 22 1 (.slice a' zs.length cap') zs.length ((zs).map (Value.int .u32))) := own_below hS4.own ((Below.refl _ _).alloc (Nat.le_refl _) _)
          have N2 : Hid (∀ (j : Nat) (u : Value), [Value.int .u32 z2][j]? = some u → ((wr.alloc (.cells #[.int .u8 1, .int .u32 z2, .string z3] 63)).alloc (.cells #[.int .u32 z2] 22)).cell? ((⟨wr.heap.size + 1, 0, none⟩ : Addr).add j) = some u) := World.news_of_block (cs := #[.int .u32 z2]) (t := 22) (fr := (0, 0)) (by first | exact alloc_new _ _ _ | simpa using alloc_new ((wr.alloc (.cells #[.int .u8 1, .int .u32 z2, .string z3] 63))) #[.int .u32 z2] 22)
          have N3 : Hid (∀ u : Value, u ∈ [Value.int .u32 z2] → u.oneCell' = true) := by intro u hu; simp at hu; subst hu; rfl
          have N4 : zs.length + 1 ≤ maxLen := by unfold maxLen; omega
          have N5 : (zs.length + 1) * 4 ≤ 140737488355328 := by omega
          have N6 : Hid (w.heap.size + 1 ≤ ((wr.alloc (.cells #[.int .u8 1, .int .u32 z2, .string z3] 63)).alloc (.cells #[.int .u32 z2] 22)).heap.size) := by show _ ≤ _; rw [World.size_alloc]; have := (Array.getElem?_eq_some_iff.1 hS4.box).1; omega
          have HS : Hid (IdsS w ((wr.alloc (.cells #[.int .u8 1, .int .u32 z2, .string z3] 63)).alloc (.cells #[.int .u32 z2] 22)) xo 0 xr (some ⟨b1, o1, none⟩) n cx (.slice a' zs.length cap') zs) := hS4.below ((Below.refl _ _).alloc (Nat.le_refl _) _)
          go_wp2_with (at_builtin; refine wpList_append_own _ rfl (.tmp 24) (.tmp 27) 39 rfl (w.heap.size + 1) 22 i0 (.int .u32 0) 1 4 Try.underlying39 HI.out.1 HI.out.2.1 HI.out.2.2.1 HI.out.2.2.2 rfl (by decide) _ zs.length (zs.map (Value.int .u32)) rfl N1.out ⟨wr.heap.size + 1, 0, none⟩ 1 1 [.int .u32 z2] rfl rfl N2.out N3.out N4 N5 N6.out ?_)
          intro v5 w5 hown5 hgr5 _
          have hS5 := HS.out.push hgr5 hown5
          obtain ⟨a6, cap6, rfl⟩ : ∃ a cap, v5 = .slice a (zs.length + 1) cap := by
            rcases hown5.2 with ⟨_, h0⟩ | ⟨g, cap, cur, rfl, _⟩
            · omega
            · exact ⟨_, _, rfl⟩
          clear hown5 hgr5 N1 N2 N3 N6 HS hS4
          go_wp2
          go_roundw
          case rel => exact ⟨k + 1, by omega, by go_num, by rw [HS2.out, hA1]; exact hS5⟩
          case measure => simp [intOf]; omega
        · have hA1 : idsA (z1, z2, z3) = [] := by simp [idsA, h1]
          have HS4 : Hid (IdsS w (wr.alloc (.cells #[.int .u8 z1, .int .u32 z2, .string z3] 63)) xo 0 xr (some ⟨b1, o1, none⟩) n cx (.slice a' zs.length cap') zs) := hS4
          clear hS4
          go_wp2
          go_roundw
          case rel => exact ⟨k + 1, by omega, by go_num, by rw [HS2.out, hA1, List.append_nil]; exact HS4.out⟩
          case measure => simp [intOf]; omega
      · obtain rfl : k = n := by omega
        have hfin := hS.bel
        have hown := hS.own
        clear hS hA
        go_wp2
        go_ret
        refine ⟨hfin, a', _, cap', rfl, rfl, ?_⟩
        refine ⟨hown.1, ?_⟩
        rcases hown.2 with hn0 | ⟨g, cap, cur, e1, hb, rest⟩
        · exact .inl hn0
        · exact .inr ⟨g, cap, cur, e1, by omega, rest⟩
  · have ht' := ht
    have N1 : Hid (((w.alloc (.cells #[.int .u16 xo, .int .u32 xt, .int .u32 xr, .slice ax n cx] 51)).alloc (.cells #[.int .u32 xt] 22)).ownsRow (w.heap.size + 1) 22 1 (.slice none 0 0) ([] : List Int).length ((([] : List Int)).map (Value.int .u32))) := own_below hS0.own ((Below.refl _ _).alloc (Nat.le_refl _) _)
    have N2 : Hid (∀ (j : Nat) (u : Value), [Value.int .u32 xt][j]? = some u → ((w.alloc (.cells #[.int .u16 xo, .int .u32 xt, .int .u32 xr, .slice ax n cx] 51)).alloc (.cells #[.int .u32 xt] 22)).cell? ((⟨w.heap.size + 1, 0, none⟩ : Addr).add j) = some u) := World.news_of_block (cs := #[.int .u32 xt]) (t := 22) (fr := (0, 0)) (by first | exact alloc_new _ _ _ | simpa using alloc_new ((w.alloc (.cells #[.int .u16 xo, .int .u32 xt, .int .u32 xr, .slice ax n cx] 51))) #[.int .u32 xt] 22)
    have N3 : Hid (∀ u : Value, u ∈ [Value.int .u32 xt] → u.oneCell' = true) := by intro u hu; simp at hu; subst hu; rfl
    have N4 : ([] : List Int).length + 1 ≤ maxLen := by unfold maxLen; simp
    have N5 : (([] : List Int).length + 1) * 4 ≤ 140737488355328 := by simp
    have N6 : Hid (w.heap.size + 1 ≤ ((w.alloc (.cells #[.int .u16 xo, .int .u32 xt, .int .u32 xr, .slice ax n cx] 51)).alloc (.cells #[.int .u32 xt] 22)).heap.size) := by show _ ≤ _; rw [World.size_alloc]; have := (Array.getElem?_eq_some_iff.1 hS0.box).1; omega
    have HS : Hid (IdsS w ((w.alloc (.cells #[.int .u16 xo, .int .u32 xt, .int .u32 xr, .slice ax n cx] 51)).alloc (.cells #[.int .u32 xt] 22)) xo xt xr ax n cx (.slice none 0 0) ([] : List Int)) := hS0.below ((Below.refl _ _).alloc (Nat.le_refl _) _)
    clear hS0
    go_enter Try.func34, Try.ntmps34
    go_wp2_with (at_builtin; refine wpList_append_own _ rfl (.tmp 9) (.tmp 12) 39 rfl (w.heap.size + 1) 22 i0 (.int .u32 0) 1 4 Try.underlying39 HI.out.1 HI.out.2.1 HI.out.2.2.1 HI.out.2.2.2 rfl (by decide) _ 0 [] rfl N1.out ⟨w.heap.size + 1, 0, none⟩ 1 1 [.int .u32 xt] rfl rfl N2.out N3.out N4 N5 N6.out ?_)
    intro v5 w5 hown5 hgr5 _
    have hS5 := HS.out.push hgr5 hown5
    obtain ⟨a5, cap5, rfl⟩ : ∃ a cap, v5 = .slice a 1 cap := by
      rcases hown5.2 with ⟨_, h0⟩ | ⟨g, cap, cur, rfl, _⟩
      · cases h0
      · exact ⟨_, _, rfl⟩
    have b3 := (one_block hS5.box).1 3
    have HS5 : Hid (IdsS w w5 xo xt xr ax n cx (.slice a5 1 cap5) [xt]) := hS5
    clear hown5 hgr5 N1 N2 N3 N6 HS N4 N5 hS5
    go_wp2
    go_loopw [3, 17] (fun v i wr => ∃ k : Nat, k ≤ n ∧ i = .int .i64 k ∧ IdsS w wr xo xt xr ax n cx v (idsTo xt xl k)) (fun _ i _ => n - (intOf i).toNat)
    case atStart => exact ⟨0, Nat.zero_le _, rfl, by rw [idsTo_zero, if_neg ht']; exact HS5.out⟩
    case round =>
      obtain ⟨k, hk, rfl, hS⟩ := hrel
      clear HS5
      have hA := hv.below hS.bel
      obtain ⟨a', cap', rfl⟩ : ∃ a cap, u3 = .slice a (idsTo xt xl k).length cap := by
        rcases hS.own.2 with ⟨rfl, h0⟩ | ⟨g, cap, cur, rfl, _⟩
        · exact ⟨none, 0, by rw [h0]⟩
        · exact ⟨_, _, rfl⟩
      by_cases hlt : k < n
      · have hkl : k < xl.length := by rw [HL.out]; exact hlt
        obtain ⟨b1, o1, rfl, hb1, p1, p2, p3⟩ := hA k hkl
        have hsu := idsTo_succ xt xl k hkl
        have hln := idsTo_len xt xl k
        have HSU : Hid _ := hsu
        generalize idsTo xt xl k = zs at *
        have HS2 : Hid (idsTo xt xl (k + 1) = zs ++ idsA (nthA xl k)) := HSU.out
        clear hsu HSU
        generalize nthA xl k = z at *
        obtain ⟨z1, z2, z3⟩ := z
        simp only at *
        have hki : (k : Int) < (n : Int) := by omega
        have hk0 : (0 : Int) ≤ (k : Int) := by omega
        have hS4 := hS.below ((Below.refl _ wr).alloc (Nat.le_refl _) (.cells #[.int .u8 z1, .int .u32 z2, .string z3] 63))
        clear hA
        by_cases h1 : z1 = 1
        · subst h1
          have hA1 : idsA (1, z2, z3) = [z2] := by simp [idsA]
          have N1 : Hid (((wr.alloc (.cells #[.int .u8 1, .int .u32 z2, .string z3] 63)).alloc (.cells #[.int .u32 z2] 22)).ownsRow (w.heap.size + 1) 22 1 (.slice a' zs.length cap') zs.length ((zs).map (Value.int .u32))) := own_below hS4.own ((Below.refl _ _).alloc (Nat.le_refl _) _)
          have N2 : Hid (∀ (j : Nat) (u : Value), [Value.int .u32 z2][j]? = some u → ((wr.alloc (.cells #[.int .u8 1, .int .u32 z2, .string z3] 63)).alloc (.cells #[.int .u32 z2] 22)).cell? ((⟨wr.heap.size + 1, 0, none⟩ : Addr).add j) = some u) := World.news_of_block (cs := #[.int .u32 z2]) (t := 22) (fr := (0, 0)) (by first | exact alloc_new _ _ _ | simpa using alloc_new ((wr.alloc (.cells #[.int .u8 1, .int .u32 z2, .string z3] 63))) #[.int .u32 z2] 22)
          have N3 : Hid (∀ u : Value, u ∈ [Value.int .u32 z2] → u.oneCell' = true) := by intro u hu; simp at hu; subst hu; rfl
          have N4 : zs.length + 1 ≤ maxLen := by unfold maxLen; omega
          have N5 : (zs.length + 1) * 4 ≤ 140737488355328 := by omega
          have N6 : Hid (w.heap.size + 1 ≤ ((wr.alloc (.cells #[.int .u8 1, .int .u32 z2, .string z3] 63)).alloc (.cells #[.int .u32 z2] 22)).heap.size) := by show _ ≤ _; rw [World.size_alloc]; have := (Array.getElem?_eq_some_iff.1 hS4.box).1; omega
          have HS : Hid (IdsS w ((wr.alloc (.cells #[.int .u8 1, .int .u32 z2, .string z3] 63)).alloc (.cells #[.int .u32 z2] 22)) xo xt xr (some ⟨b1, o1, none⟩) n cx (.slice a' zs.length cap') zs) := hS4.below ((Below.refl _ _).alloc (Nat.le_refl _) _)
          go_wp2_with (at_builtin; refine wpList_append_own _ rfl (.tmp 24) (.tmp 27) 39 rfl (w.heap.size + 1) 22 i0 (.int .u32 0) 1 4 Try.underlying39 HI.out.1 HI.out.2.1 HI.out.2.2.1 HI.out.2.2.2 rfl (by decide) _ zs.length (zs.map (Value.int .u32)) rfl N1.out ⟨wr.heap.size + 1, 0, none⟩ 1 1 [.int .u32 z2] rfl rfl N2.out N3.out N4 N5 N6.out ?_)
          intro v5 w5 hown5 hgr5 _
          have hS5 := HS.out.push hgr5 hown5
          obtain ⟨a6, cap6, rfl⟩ : ∃ a cap, v5 = .slice a (zs.length + 1) cap := by
            rcases hown5.2 with ⟨_, h0⟩ | ⟨g, cap, cur, rfl, _⟩
            · omega
            · exact ⟨_, _, rfl⟩
          clear hown5 hgr5 N1 N2 N3 N6 HS hS4
          go_wp2
          go_roundw
          case rel => exact ⟨k + 1, by omega, by go_num, by rw [HS2.out, hA1]; exact hS5⟩
          case measure => simp [intOf]; omega
        · have hA1 : idsA (z1, z2, z3) = [] := by simp [idsA, h1]
          have HS4 : Hid (IdsS w (wr.alloc (.cells #[.int .u8 z1, .int .u32 z2, .string z3] 63)) xo xt xr (some ⟨b1, o1, none⟩) n cx (.slice a' zs.length cap') zs) := hS4
          clear hS4
          go_wp2
          go_roundw
          case rel => exact ⟨k + 1, by omega, by go_num, by rw [HS2.out, hA1, List.append_nil]; exact HS4.out⟩
          case measure => simp [intOf]; omega
      · obtain rfl : k = n := by omega
        have hfin := hS.bel
        have hown := hS.own
        clear hS hA
        go_wp2
        go_ret
        refine ⟨hfin, a', _, cap', rfl, rfl, ?_⟩
        refine ⟨hown.1, ?_⟩
        rcases hown.2 with hn0 | ⟨g, cap, cur, e1, hb, rest⟩
        · exact .inl hn0
        · exact .inr ⟨g, cap, cur, e1, by omega, rest⟩

end Go.Proofs.Ytmobologlaeefac

/-
  Plain facts on who makes an id and who names it.
-/
namespace Go.Proofs.Ytmobologlaeefac
open Go.RowKit
set_option linter.unusedVariables false

/-- The places, up to one, of the instructions that name an id. -/
def usesTo (l : List InstT) (id : Int) : Nat → List Int
  | 0 => []
  | k + 1 => usesTo l id k ++ (if id ∈ idsI (nthI l k) then [(k : Int)] else [])
theorem usesTo_len (l : List InstT) (id : Int) : ∀ k, (usesTo l id k).length ≤ k
  | 0 => by simp [usesTo]
  | k + 1 => by
    have := usesTo_len l id k
    rw [usesTo, List.length_append]
    split <;> simp <;> omega
/-- What Uses answers. -/
def usesL (b : Int) (l : List InstT) (id : Int) : List Int := if (shapeE b l).1 = 0 then usesTo l id l.length else []

/-- Does an instruction name an id by a text? -/
def namesX (x : InstT) (id : Int) : Bool := decide (x.1 = 5) && decide ((nthA x.2.2.2 0).2.1 = id)
/-- The first of them, from a place on. -/
def nameF (l : List InstT) (id : Int) : Nat → Nat → ByteArray × Bool
  | 0, _ => (⟨#[]⟩, false)
  | f + 1, k => if namesX (nthI l k) id = true then ((nthA (nthI l k).2.2.2 1).2.2, true) else nameF l id f (k + 1)
/-- What Name answers. -/
def nameL (b : Int) (l : List InstT) (id : Int) : ByteArray × Bool := if (shapeE b l).1 = 0 then nameF l id l.length 0 else (⟨#[]⟩, false)
/-- An instruction that gives a name has two arguments. -/
theorem name_args {x : InstT} {b : Int} (h : rawE x b = 0) (h5 : x.1 = 5) : x.2.2.2.length = 2 := by
  obtain ⟨h1, h2, _⟩ := rawWs_ok h
  have h4 := (faultI_zero h2).2.2.2.1
  rw [h5] at h4
  have e1 : (lookF refT 5).1.2.2.2.1.size = 2 ∧ (lookF refT 5).1.2.2.2.2.1.size = 0 := ⟨by kernel_rfl, by kernel_rfl⟩
  unfold wholeN at h4
  rw [e1.1, e1.2, if_pos rfl] at h4
  split at h4
  · cases h4
  · have := of_decide_eq_true h4; omega
theorem shape_at {b : Int} {l : List InstT} (h : (shapeE b l).1 = 0) (k : Nat) (hk : k < l.length) : rawE (nthI l k) b = 0 := shape_each h k hk
end Go.Proofs.Ytmobologlaeefac

/-
  Inst of the kit tells whether two instructions are the same.
-/
namespace Go.Proofs.Ytmobologlaeefac
open Go.RowKit
set_option maxRecDepth 10000

theorem two_boxes (w : World) (o p : Obj) : Below w.heap.size w ((w.alloc o).alloc p) := ((Below.refl _ w).alloc (Nat.le_refl _) _).alloc (by simp) _

theorem block_two (w : World) (xs ys : Array Value) (S T : Nat) :
    (∀ i, ((w.alloc (.cells xs S)).alloc (.cells ys T)).cell? ⟨w.heap.size, i, none⟩ = xs[i]?) ∧ (∀ i, ((w.alloc (.cells xs S)).alloc (.cells ys T)).cell? ⟨w.heap.size + 1, i, none⟩ = ys[i]?) := by
  constructor
  · intro i
    have h : ((w.alloc (.cells xs S)).alloc (.cells ys T)).heap[w.heap.size]? = some (.cells xs S (0, 0)) := (Below.heap_alloc _ _ _ (by simp)).trans (heap_alloc_new w _)
    simp only [World.cell?, h]; rfl
  · intro i
    have h : ((w.alloc (.cells xs S)).alloc (.cells ys T)).heap[w.heap.size + 1]? = some (.cells ys T (0, 0)) := by simpa using heap_alloc_new (w.alloc (.cells xs S)) (.cells ys T)
    simp only [World.cell?, h]; rfl

set_option maxHeartbeats 1000000 in
theorem kitInst_any (x y : InstT) (ax ay : Option Addr) (n m cx cy : Nat) (w : World) (hx : ArgsV w ax x.2.2.2) (hy : ArgsV w ay y.2.2.2) (hlx : x.2.2.2.length = n) (hly : y.2.2.2.length = m) (hn : n ≤ 140737488351232) (hm : m ≤ 140737488351232) :
    Calls Try.prog 40 #[instV x ax n cx, instV y ay m cy] w fun e w' => e = .returned (.bool (decide (x = y))) ∧ Below w.heap.size w w' := by
  obtain ⟨xo, xt, xr, xl⟩ := x
  obtain ⟨yo, yt, yr, yl⟩ := y
  unfold instV
  simp only at *
  have HLX : Hid (xl.length = n) := hlx
  have HLY : Hid (yl.length = m) := hly
  clear hlx hly
  by_cases H : xo = yo ∧ xt = yt ∧ xr = yr ∧ n = m
  · obtain ⟨rfl, rfl, rfl, rfl⟩ := H
    have e1 : decide ((xo, xt, xr, xl) = (xo, xt, xr, yl)) = decide (xl = yl) := by simp
    rw [e1]
    go_enter Try.func40, Try.ntmps40
    go_wp2
    have hB := two_boxes w (.cells #[.int .u16 xo, .int .u32 xt, .int .u32 xr, .slice ax n cx] 51) (.cells #[.int .u16 xo, .int .u32 xt, .int .u32 xr, .slice ay n cy] 51)
    have hx1 := hx.below hB
    have hy1 := hy.below hB
    have hA : ((w.alloc (.cells #[.int .u16 xo, .int .u32 xt, .int .u32 xr, .slice ax n cx] 51)).alloc (.cells #[.int .u16 xo, .int .u32 xt, .int .u32 xr, .slice ay n cy] 51)).cell? ⟨w.heap.size, 3, none⟩ = some (.slice ax n cx) := by simp [go_sem]
    have hA2 : ((w.alloc (.cells #[.int .u16 xo, .int .u32 xt, .int .u32 xr, .slice ax n cx] 51)).alloc (.cells #[.int .u16 xo, .int .u32 xt, .int .u32 xr, .slice ay n cy] 51)).cell? ⟨w.heap.size + 1, 3, none⟩ = some (.slice ay n cy) := by simp [go_sem]
    generalize ((w.alloc (.cells #[.int .u16 xo, .int .u32 xt, .int .u32 xr, .slice ax n cx] 51)).alloc (.cells #[.int .u16 xo, .int .u32 xt, .int .u32 xr, .slice ay n cy] 51)) = W at *
    clear hx hy
    go_loopw [5] (fun i wr => ∃ k q : Nat, k ≤ n ∧ i = .int .i64 k ∧ wr = W.drewN q ∧ ∀ j, j < k → nthA xl j = nthA yl j) (fun i _ => n - (intOf i).toNat)
    case atStart => exact ⟨0, 0, Nat.zero_le _, rfl, rfl, fun j hj => by omega⟩
    case round =>
      obtain ⟨k, q, hk, rfl, rfl, hall⟩ := hrel
      have HALL : Hid (∀ j, j < k → nthA xl j = nthA yl j) := hall
      clear hall
      by_cases hlt : k < n
      · obtain ⟨b1, o1, rfl, _, c1, c2, c3⟩ := hx1 k (by rw [HLX.out]; exact hlt)
        obtain ⟨b2, o2, rfl, _, d1, d2, d3⟩ := hy1 k (by rw [HLY.out]; exact hlt)
        have hk0 : (0 : Int) ≤ (k : Int) := by omega
        have hki : (k : Int) < (n : Int) := by omega
        by_cases he : nthA xl k = nthA yl k
        · rw [← he] at d1 d2 d3
          obtain ⟨z, hz⟩ : ∃ z, z = nthA xl k := ⟨_, rfl⟩
          obtain ⟨z1, z2, z3⟩ := z
          rw [← hz] at c1 c2 c3 d1 d2 d3
          have HE : Hid (nthA xl k = nthA yl k) := he
          clear hx1 hy1 hz he
          go_wp2
          go_quiet (fail)
          go_wp2
          go_roundw
          case rel => exact ⟨k + 1, _, by omega, by go_num, rfl, fun j hj => by
            by_cases hjk : j < k
            · exact HALL.out j hjk
            · obtain rfl : j = k := by omega
              exact HE.out⟩
          case measure => simp [intOf]; omega
        · obtain ⟨z, hz⟩ : ∃ z, z = nthA xl k := ⟨_, rfl⟩
          obtain ⟨y, hy⟩ : ∃ y, y = nthA yl k := ⟨_, rfl⟩
          rw [← hz] at c1 c2 c3
          rw [← hy] at d1 d2 d3
          have HE : Hid (decide (xl = yl) = false) := decide_eq_false (fun h => he (by rw [h]))
          rw [← hz, ← hy] at he
          obtain ⟨z1, z2, z3⟩ := z
          obtain ⟨y1, y2, y3⟩ := y
          clear hx1 hy1 hz hy
          by_cases h1 : z1 = y1
          · subst h1
            by_cases h2 : z2 = y2
            · subst h2
              have h3 : ¬ z3.toList = y3.toList := fun h => he (by rw [str_inj h])
              clear he
              go_wp2
              go_quiet (fail)
              go_wp2
              go_ret
              exact ⟨by rw [HE.out]; rfl, bel_drewN (bel_drewN hB q) _⟩
            · clear he
              go_wp2
              go_quiet (fail)
              go_wp2
              go_ret
              exact ⟨by rw [HE.out]; rfl, bel_drewN (bel_drewN hB q) _⟩
          · clear he
            go_wp2
            go_quiet (fail)
            go_wp2
            go_ret
            exact ⟨by rw [HE.out]; rfl, bel_drewN (bel_drewN hB q) _⟩
      · go_wp2
        go_ret
        refine ⟨?_, bel_drewN hB q⟩
        obtain rfl : k = n := by omega
        show Ending.returned (.bool true) = _
        rw [decide_eq_true]
        exact (argsEq_iff _ _).2 ⟨by rw [HLX.out, HLY.out], fun j hj => HALL.out j (by rw [← HLX.out]; exact hj)⟩
  · have e1 : decide ((xo, xt, xr, xl) = (yo, yt, yr, yl)) = false := by
      rw [decide_eq_false]
      intro h
      simp only [Prod.mk.injEq] at h
      obtain ⟨rfl, rfl, rfl, rfl⟩ := h
      exact H ⟨rfl, rfl, rfl, HLX.out.symm.trans HLY.out⟩
    rw [e1]
    go_enter Try.func40, Try.ntmps40
    go_wp2
    all_goals first | (exfalso; apply H; refine ⟨rfl, rfl, rfl, ?_⟩; omega) | (go_ret; exact ⟨rfl, two_boxes _ _ _⟩)

end Go.Proofs.Ytmobologlaeefac

/-
  Module of the kit tells whether two modules are the same.
-/
namespace Go.Proofs.Ytmobologlaeefac
open Go.RowKit
set_option maxRecDepth 10000

def modV (g b : Int) (a : Option Addr) (n c : Nat) : Value := .agg #[.int .u32 g, .int .u32 b, .slice a n c]

set_option maxHeartbeats 2000000 in
theorem kitModule_any (g1 b1 g2 b2 : Int) (l m : List InstT) (ax ay : Option Addr) (nx ny cx cy : Nat) (w : World) (hx : InstsV w ax l) (hy : InstsV w ay m) (hlx : l.length = nx) (hly : m.length = ny) (hokx : InstsOk l) (hoky : InstsOk m) (hnx : nx ≤ 140737488351232) (hny : ny ≤ 140737488351232) (r : Bool) (hr : r = true ↔ (g1 = g2 ∧ b1 = b2 ∧ l = m)) :
    Calls Try.prog 19 #[modV g1 b1 ax nx cx, modV g2 b2 ay ny cy] w fun e w' => e = .returned (.bool r) ∧ Below w.heap.size w w' := by
  have HR : Hid (r = true ↔ (g1 = g2 ∧ b1 = b2 ∧ l = m)) := hr
  clear hr
  unfold modV
  have HLX : Hid (l.length = nx) := hlx
  have HLY : Hid (m.length = ny) := hly
  clear hlx hly
  by_cases H : g1 = g2 ∧ b1 = b2 ∧ nx = ny
  · obtain ⟨rfl, rfl, rfl⟩ := H
    go_enter Try.func19, Try.ntmps19
    go_wp2
    have hB := two_boxes w (.cells #[.int .u32 g1, .int .u32 b1, .slice ax nx cx] 25) (.cells #[.int .u32 g1, .int .u32 b1, .slice ay nx cy] 25)
    have hx1 := hx.below hB
    have hy1 := hy.below hB
    have hs : w.heap.size + 2 = ((w.alloc (.cells #[.int .u32 g1, .int .u32 b1, .slice ax nx cx] 25)).alloc (.cells #[.int .u32 g1, .int .u32 b1, .slice ay nx cy] 25)).heap.size := by simp
    have hA : ((w.alloc (.cells #[.int .u32 g1, .int .u32 b1, .slice ax nx cx] 25)).alloc (.cells #[.int .u32 g1, .int .u32 b1, .slice ay nx cy] 25)).cell? ⟨w.heap.size, 2, none⟩ = some (.slice ax nx cx) := by simp [go_sem]
    have hA2 : ((w.alloc (.cells #[.int .u32 g1, .int .u32 b1, .slice ax nx cx] 25)).alloc (.cells #[.int .u32 g1, .int .u32 b1, .slice ay nx cy] 25)).cell? ⟨w.heap.size + 1, 2, none⟩ = some (.slice ay nx cy) := by simp [go_sem]
    generalize ((w.alloc (.cells #[.int .u32 g1, .int .u32 b1, .slice ax nx cx] 25)).alloc (.cells #[.int .u32 g1, .int .u32 b1, .slice ay nx cy] 25)) = W at *
    clear hx hy
    go_loopw [5] (fun i wr => ∃ k : Nat, k ≤ nx ∧ i = .int .i64 k ∧ Below W.heap.size W wr ∧ ∀ j, j < k → nthI l j = nthI m j) (fun i _ => nx - (intOf i).toNat)
    case atStart => exact ⟨0, Nat.zero_le _, rfl, Below.refl _ _, fun j hj => by omega⟩
    case round =>
      obtain ⟨k, hk, rfl, hbr, hall⟩ := hrel
      have HALL : Hid (∀ j, j < k → nthI l j = nthI m j) := hall
      clear hall
      have hs2 := hbr.size
      have hA1 := (hbr.cell (p := ⟨w.heap.size, 2, none⟩) (by show w.heap.size < _; omega)).trans hA
      have hA3 := (hbr.cell (p := ⟨w.heap.size + 1, 2, none⟩) (by show w.heap.size + 1 < _; omega)).trans hA2
      by_cases hlt : k < nx
      · obtain ⟨b1, o1, p1, k1, n1, rfl, l1, c1, c2, c3, c4, c5, c6, _⟩ := hx1 k (by rw [HLX.out]; exact hlt)
        obtain ⟨b2, o2, p2, k2, n2, rfl, l2, d1, d2, d3, d4, d5, d6, _⟩ := hy1 k (by rw [HLY.out]; exact hlt)
        have hk0 : (0 : Int) ≤ (k : Int) := by omega
        have hki : (k : Int) < (nx : Int) := by omega
        have s1 := (hokx k (by rw [HLX.out]; exact hlt)).2.2.2.2.2.2.2
        have s2 := (hoky k (by rw [HLY.out]; exact hlt)).2.2.2.2.2.2.2
        rw [c5] at s1
        rw [d5] at s2
        have hC := fun wx (hb : Below W.heap.size W wx) => kitInst_any (nthI l k) (nthI m k) p1 p2 n1 n2 k1 k2 wx (c6.below hb) (d6.below hb) c5 d5 (by omega) (by omega)
        unfold instV at hC
        replace c1 := (hbr.cell (p := ⟨b1, o1 + k * 4, none⟩) l1).trans c1
        replace c2 := (hbr.cell (p := ⟨b1, o1 + k * 4 + 1, none⟩) l1).trans c2
        replace c3 := (hbr.cell (p := ⟨b1, o1 + k * 4 + 2, none⟩) l1).trans c3
        replace c4 := (hbr.cell (p := ⟨b1, o1 + k * 4 + 3, none⟩) l1).trans c4
        replace d1 := (hbr.cell (p := ⟨b2, o2 + k * 4, none⟩) l2).trans d1
        replace d2 := (hbr.cell (p := ⟨b2, o2 + k * 4 + 1, none⟩) l2).trans d2
        replace d3 := (hbr.cell (p := ⟨b2, o2 + k * 4 + 2, none⟩) l2).trans d3
        replace d4 := (hbr.cell (p := ⟨b2, o2 + k * 4 + 3, none⟩) l2).trans d4
        clear hx1 hy1 hA hA2 c5 c6 d5 d6 s1 s2
        by_cases he : nthI l k = nthI m k
        · have HE : Hid (nthI l k = nthI m k) := he
          rw [decide_eq_true he] at hC
          clear he
          go_wp2
          go_region_with ((go_at_call 40; refine (hC _ (by first | exact hbr | exact hbr.drew)).mono ?_; rintro e w' ⟨rfl, hbC⟩))
          all_goals
            have hbC' : Below W.heap.size W w' := by first | exact hbr.trans (hbC.mono hs2) | exact hbr.drew.trans (hbC.mono (by exact hs2))
            clear hbC
            go_wp2
            go_roundw
            case rel => exact ⟨k + 1, by omega, by go_num, by first | exact hbC' | exact hbC'.drew, fun j hj => by
              by_cases hjk : j < k
              · exact HALL.out j hjk
              · obtain rfl : j = k := by omega
                exact HE.out⟩
            case measure => simp [intOf]; omega
        · have HE : Hid (r = false) := by
            show r = false
            rw [← Bool.not_eq_true]
            intro hr
            obtain ⟨_, _, h⟩ := HR.out.1 hr
            exact he (by rw [h])
          rw [decide_eq_false he] at hC
          clear he
          go_wp2
          go_region_with ((go_at_call 40; refine (hC _ (by first | exact hbr | exact hbr.drew)).mono ?_; rintro e w' ⟨rfl, hbC⟩))
          all_goals
            have hbC' : Below W.heap.size W w' := by first | exact hbr.trans (hbC.mono hs2) | exact hbr.drew.trans (hbC.mono (by exact hs2))
            clear hbC
            go_wp2
            go_ret
            refine ⟨by rw [HE.out]; rfl, ?_⟩
            first | exact hB.trans (hbC'.mono (by omega)) | exact (hB.trans (hbC'.mono (by omega))).drew
      · go_wp2
        go_ret
        refine ⟨?_, hB.trans (hbr.mono (by omega))⟩
        obtain rfl : k = nx := by omega
        show Ending.returned (.bool true) = _
        rw [HR.out.2 ⟨trivial, trivial, (instsEq_iff _ _).2 ⟨by rw [HLX.out, HLY.out], fun j hj => HALL.out j (by rw [← HLX.out]; exact hj)⟩⟩]
  · have e1 : r = false := by
      rw [← Bool.not_eq_true]
      intro hr
      obtain ⟨h1, h2, h3⟩ := HR.out.1 hr
      exact H ⟨h1, h2, by rw [← HLX.out, ← HLY.out, h3]⟩
    subst e1
    go_enter Try.func19, Try.ntmps19
    go_wp2
    all_goals first | (exfalso; apply H; refine ⟨rfl, rfl, ?_⟩; omega) | (go_ret; exact ⟨rfl, two_boxes _ _ _⟩)

end Go.Proofs.Ytmobologlaeefac

/-
  Plain arithmetic for the layer of frames: where the instructions of words lie. No condition but the bounds that each lemma names.
-/
namespace Go.Proofs.Ytmobologlaeefac
open Go.RowKit

/-- How many words the instruction at a place says that it has. -/
def cntN (zs : List Int) (p : Nat) : Nat := (nth zs p).toNat / 65536
/-- Its operation. -/
def opI (zs : List Int) (p : Nat) : Int := nth zs p % 65536

theorem cntN_int (zs : List Int) (p : Nat) (h : 0 ≤ nth zs p) : nth zs p / 65536 = (cntN zs p : Int) := by unfold cntN; omega
theorem opI_lo (zs : List Int) (p : Nat) : 0 ≤ opI zs p := Int.emod_nonneg _ (by decide)
theorem opI_hi (zs : List Int) (p : Nat) : opI zs p < 65536 := Int.emod_lt_of_pos _ (by decide)

/-- No instruction begins there: it says no words, or more than are left. -/
def badAt (zs : List Int) (p : Nat) : Prop := cntN zs p = 0 ∨ zs.length < p + cntN zs p
def badB (zs : List Int) (p : Nat) : Bool := cntN zs p == 0 || decide (zs.length < p + cntN zs p)
theorem badB_true {zs : List Int} {p : Nat} (h : badAt zs p) : badB zs p = true := by
  unfold badB; rcases h with h | h <;> simp [h]
theorem badB_false {zs : List Int} {p : Nat} (h : ¬ badAt zs p) : badB zs p = false := by
  unfold badAt at h; unfold badB
  have h1 : ¬ cntN zs p = 0 := fun e => h (.inl e)
  have h2 : ¬ zs.length < p + cntN zs p := fun e => h (.inr e)
  simp [h1, h2]

def restF (zs : List Int) : Nat → Nat → List Nat
  | 0, _ => []
  | f + 1, p => if p < zs.length then (if badB zs p then [] else p :: restF zs f (p + cntN zs p)) else []
def stopF (zs : List Int) : Nat → Nat → Nat
  | 0, p => p
  | f + 1, p => if p < zs.length then (if badB zs p then p else stopF zs f (p + cntN zs p)) else p
/-- The places of the instructions from a place on. -/
def rest (zs : List Int) (p : Nat) : List Nat := restF zs (zs.length - p) p
/-- Where they end. -/
def stop (zs : List Int) (p : Nat) : Nat := stopF zs (zs.length - p) p

theorem restF_end (zs : List Int) (f p : Nat) (h : zs.length ≤ p) : restF zs f p = [] := by
  cases f with
  | zero => rfl
  | succ f => rw [restF, if_neg (by omega)]
theorem stopF_end (zs : List Int) (f p : Nat) (h : zs.length ≤ p) : stopF zs f p = p := by
  cases f with
  | zero => rfl
  | succ f => rw [stopF, if_neg (by omega)]
theorem cnt_pos {zs : List Int} {p : Nat} (h : badB zs p = false) : 0 < cntN zs p := by
  unfold badB at h; simp at h; omega
theorem cnt_fits {zs : List Int} {p : Nat} (h : badB zs p = false) : p + cntN zs p ≤ zs.length := by
  unfold badB at h; simp at h; omega

theorem restF_fuel (zs : List Int) : ∀ (f g p : Nat), zs.length - p ≤ f → zs.length - p ≤ g → restF zs f p = restF zs g p
  | 0, g, p, h, _ => by rw [restF_end zs 0 p (by omega), restF_end zs g p (by omega)]
  | f + 1, 0, p, _, h => by rw [restF_end zs 0 p (by omega), restF_end zs (f + 1) p (by omega)]
  | f + 1, g + 1, p, h1, h2 => by
    rw [restF, restF]
    by_cases hp : p < zs.length
    · rw [if_pos hp, if_pos hp]
      cases hb : badB zs p with
      | true => rfl
      | false =>
        have := cnt_pos hb
        simp only [Bool.false_eq_true, if_false]
        rw [restF_fuel zs f g (p + cntN zs p) (by omega) (by omega)]
    · rw [if_neg hp, if_neg hp]
theorem stopF_fuel (zs : List Int) : ∀ (f g p : Nat), zs.length - p ≤ f → zs.length - p ≤ g → stopF zs f p = stopF zs g p
  | 0, g, p, h, _ => by rw [stopF_end zs 0 p (by omega), stopF_end zs g p (by omega)]
  | f + 1, 0, p, _, h => by rw [stopF_end zs 0 p (by omega), stopF_end zs (f + 1) p (by omega)]
  | f + 1, g + 1, p, h1, h2 => by
    rw [stopF, stopF]
    by_cases hp : p < zs.length
    · rw [if_pos hp, if_pos hp]
      cases hb : badB zs p with
      | true => rfl
      | false =>
        have := cnt_pos hb
        simp only [Bool.false_eq_true, if_false]
        rw [stopF_fuel zs f g (p + cntN zs p) (by omega) (by omega)]
    · rw [if_neg hp, if_neg hp]

theorem rest_end (zs : List Int) (p : Nat) (h : zs.length ≤ p) : rest zs p = [] := restF_end zs _ p h
theorem stop_end (zs : List Int) (p : Nat) (h : zs.length ≤ p) : stop zs p = p := stopF_end zs _ p h
theorem rest_bad (zs : List Int) (p : Nat) (hp : p < zs.length) (h : badB zs p = true) : rest zs p = [] := by
  obtain ⟨f, hf⟩ : ∃ f, zs.length - p = f + 1 := ⟨zs.length - p - 1, by omega⟩
  rw [rest, hf, restF, if_pos hp, h]; rfl
theorem stop_bad (zs : List Int) (p : Nat) (hp : p < zs.length) (h : badB zs p = true) : stop zs p = p := by
  obtain ⟨f, hf⟩ : ∃ f, zs.length - p = f + 1 := ⟨zs.length - p - 1, by omega⟩
  rw [stop, hf, stopF, if_pos hp, h]; rfl
theorem rest_go (zs : List Int) (p : Nat) (hp : p < zs.length) (h : badB zs p = false) : rest zs p = p :: rest zs (p + cntN zs p) := by
  obtain ⟨f, hf⟩ : ∃ f, zs.length - p = f + 1 := ⟨zs.length - p - 1, by omega⟩
  have := cnt_pos h
  rw [rest, hf, restF, if_pos hp, h]
  simp only [Bool.false_eq_true, if_false]
  rw [restF_fuel zs f (zs.length - (p + cntN zs p)) (p + cntN zs p) (by omega) (by omega)]
  rfl
theorem stop_go (zs : List Int) (p : Nat) (hp : p < zs.length) (h : badB zs p = false) : stop zs p = stop zs (p + cntN zs p) := by
  obtain ⟨f, hf⟩ : ∃ f, zs.length - p = f + 1 := ⟨zs.length - p - 1, by omega⟩
  have := cnt_pos h
  rw [stop, hf, stopF, if_pos hp, h]
  simp only [Bool.false_eq_true, if_false]
  rw [stopF_fuel zs f (zs.length - (p + cntN zs p)) (p + cntN zs p) (by omega) (by omega)]
  rfl
theorem restF_len (zs : List Int) : ∀ (f p : Nat), (restF zs f p).length ≤ f
  | 0, _ => Nat.le_refl _
  | f + 1, p => by
    rw [restF]
    split
    · split
      · simp
      · have := restF_len zs f (p + cntN zs p)
        simp only [List.length_cons]; omega
    · simp
theorem rest_len (zs : List Int) (p : Nat) : (rest zs p).length ≤ zs.length - p := restF_len zs _ p
theorem restF_mem (zs : List Int) : ∀ (f p q : Nat), q ∈ restF zs f p → p ≤ q ∧ q < zs.length ∧ badB zs q = false
  | 0, _, _, h => by simp [restF] at h
  | f + 1, p, q, h => by
    rw [restF] at h
    by_cases hp : p < zs.length
    · rw [if_pos hp] at h
      cases hb : badB zs p with
      | true => rw [hb] at h; simp at h
      | false =>
        rw [hb] at h
        simp only [Bool.false_eq_true, if_false, List.mem_cons] at h
        rcases h with rfl | h
        · exact ⟨Nat.le_refl _, hp, hb⟩
        · have := restF_mem zs f (p + cntN zs p) q h
          exact ⟨by omega, this.2⟩
    · rw [if_neg hp] at h; simp at h
theorem rest_mem (zs : List Int) (p q : Nat) (h : q ∈ rest zs p) : p ≤ q ∧ q < zs.length ∧ badB zs q = false := restF_mem zs _ p q h

/-- Places as numbers. -/
def natI (l : List Nat) : List Int := l.map fun (q : Nat) => (q : Int)
theorem natI_len (l : List Nat) : (natI l).length = l.length := by simp [natI]
theorem nth_natI (l : List Nat) (k : Nat) (h : k < l.length) : nth (natI l) k = ((l.getD k 0 : Nat) : Int) := by
  simp [nth, natI, List.getD, h]

end Go.Proofs.Ytmobologlaeefac

/-
  A reader in memory: its two cells lie in one block; what was there before it turns in that block alone. And what a slice of a list is.
-/
namespace Go.Proofs.Ytmobologlaeefac
open Go.RowKit

/-- W0: the world in which the reader was made; wr: a later one. -/
structure Rd (T : TypeId) (W0 wr : World) (gr : Nat) (v : Value) (p : Nat) : Prop where
  grown : W0.grownBy wr (some gr)
  box : wr.heap[gr]? = some (.cells #[v, .int .i64 (p : Int)] T (0, 0))

theorem cell_of_two {w : World} {g : Nat} {a b : Value} {T : TypeId} (h : w.heap[g]? = some (.cells #[a, b] T (0, 0))) : w.cell? ⟨g, 0, none⟩ = some a ∧ w.cell? ⟨g, 1, none⟩ = some b ∧ w.frozen? ⟨g, 1, none⟩ = false := by
  refine ⟨?_, ?_, ?_⟩ <;> simp [World.cell?, World.frozen?, h]

theorem two_setCell {w : World} {g : Nat} {a b : Value} {T : TypeId} (h : w.heap[g]? = some (.cells #[a, b] T (0, 0))) (u : Value) : (w.setCell ⟨g, 1, none⟩ u).heap[g]? = some (.cells #[a, u] T (0, 0)) := by
  simp [World.setCell, Array.getElem?_modify, h]

theorem grown_setCell (w : World) (g j : Nat) (u : Value) : w.grownBy (w.setCell ⟨g, j, none⟩ u) (some g) :=
  ⟨rfl, rfl, rfl, by simp [World.setCell], fun k _ hne => Below.heap_setCell _ _ _ _ (fun e => hne (by rw [e]))⟩

theorem Rd.set {T : TypeId} {W0 wr : World} {gr : Nat} {v : Value} {p : Nat} (h : Rd T W0 wr gr v p) (q : Nat) (u : Int) (hu : u = (q : Int)) : Rd T W0 (wr.setCell ⟨gr, 1, none⟩ (.int .i64 u)) gr v q := by
  subst hu
  exact ⟨h.grown.trans (grown_setCell wr gr 1 _), two_setCell h.box _⟩

theorem Rd.lt {T : TypeId} {W0 wr : World} {gr : Nat} {v : Value} {p : Nat} (h : Rd T W0 wr gr v p) : gr < wr.heap.size := (Array.getElem?_eq_some_iff.1 h.box).1

/-- Where nothing that is there turns. -/
theorem Rd.below {T : TypeId} {W0 wr w' : World} {gr : Nat} {v : Value} {p : Nat} (h : Rd T W0 wr gr v p) (hb : Below wr.heap.size wr w') : Rd T W0 w' gr v p := by
  refine ⟨⟨hb.os.trans h.grown.os, hb.tape.trans h.grown.tape, hb.output.trans h.grown.output, Nat.le_trans h.grown.size hb.size, fun k hk hne => ?_⟩, by rw [hb.block gr h.lt]; exact h.box⟩
  rw [hb.block k (Nat.lt_of_lt_of_le hk h.grown.size)]
  exact h.grown.block k hk hne

/-- Where a block alone turns that is new since the reader was looked at. -/
theorem Rd.far {T : TypeId} {W0 w' w'' : World} {gr g : Nat} {v : Value} {p : Nat} (h : Rd T W0 w' gr v p) (h0 : W0.heap.size ≤ g) (hg : gr < g) (hgr : w'.grownBy w'' (some g)) : Rd T W0 w'' gr v p := by
  refine ⟨h.grown.andThen hgr (fun j hj => by cases hj; exact .inl h0), ?_⟩
  rw [hgr.block gr h.lt (fun e => by cases e; omega)]
  exact h.box

/-- The reader's words are as they were. -/
theorem Rd.view {T : TypeId} {W0 wr : World} {gr : Nat} {v : Value} {p : Nat} (h : Rd T W0 wr gr v p) {a : Option Addr} {zs : List Int} (hv : View .u32 W0 a zs) (hne : ∀ b off s, a = some ⟨b, off, s⟩ → b ≠ gr) : View .u32 wr a zs := by
  intro j hj
  obtain ⟨b, off, e, hlt, hc⟩ := hv j hj
  refine ⟨b, off, e, Nat.lt_of_lt_of_le hlt h.grown.size, ?_⟩
  rw [← hc]
  exact World.cell?_of_block (w := W0) (h.grown.block b hlt (fun e' => hne b off none e (by cases e'; rfl)))

/-- What is cut off at the front of a list. -/
theorem View.drop {k : IntKind} {w : World} {b off : Nat} {zs : List Int} (h : View k w (some ⟨b, off, none⟩) zs) (p : Nat) : View k w (some ⟨b, off + p, none⟩) (zs.drop p) := by
  intro j hj
  rw [List.length_drop] at hj
  obtain ⟨b', off', e, hb, hc⟩ := h (p + j) (by omega)
  simp at e
  obtain ⟨rfl, rfl⟩ := e
  refine ⟨b, off + p, rfl, hb, ?_⟩
  rw [Nat.add_assoc, hc]
  simp [nth, List.getD]

/-- The address of a slice that is cut at its front. -/
def cutA (a : Option Addr) (cap p : Nat) : Option Addr := if cap = p then a else a.map (·.add p)

theorem View.cut {k : IntKind} {w : World} {a : Option Addr} {cap : Nat} {zs : List Int} (h : View k w a zs) (hcap : zs.length ≤ cap) (p : Nat) : View k w (cutA a cap p) (zs.drop p) := by
  by_cases hp : p < zs.length
  · obtain ⟨b, off, rfl, _, _⟩ := h p hp
    rw [cutA, if_neg (by omega)]
    have := View.drop h p
    rw [Option.map_some, Addr.add_lit]
    exact this
  · rw [List.drop_of_length_le (by omega)]
    exact view_nil

theorem nth_drop (zs : List Int) (p j : Nat) : nth (zs.drop p) j = nth zs (p + j) := by simp [nth, List.getD]
theorem within_drop {m : Int} {zs : List Int} {n : Nat} (h : Within m zs) : Within m (zs.drop n) := fun z hz => h z (List.mem_of_mem_drop hz)

/-- What the call owns, nil or not, can be read. -/
theorem View.ofOwn {k : IntKind} {w : World} {B e n cap : Nat} {a : Option Addr} {zs : List Int} (h : w.ownsRow B e 1 (.slice a n cap) n (zs.map (Value.int k))) (hl : zs.length = n) : View k w a zs := by
  rcases h.2 with ⟨_, hn⟩ | ⟨g, cap', cur, hv, _⟩
  · have : zs = [] := List.eq_nil_of_length_eq_zero (by rw [hl]; simpa using hn)
    subst this; exact view_nil
  · cases hv; exact View.ofRow h hl

end Go.Proofs.Ytmobologlaeefac

/-
  Words of the kit answers true of two lists that are the same.
-/
namespace Go.Proofs.Ytmobologlaeefac
open Go.RowKit
set_option maxRecDepth 10000

set_option maxHeartbeats 400000 in
theorem words_true (a b : Option Addr) (n ca cb : Nat) (zs : List Int) (w : World) (ha : View .u32 w a zs) (hb : View .u32 w b zs) (hl : zs.length = n) (hn : n ≤ 140737488351232) :
    Calls Try.prog 20 #[.slice a n ca, .slice b n cb] w fun e w' => e = .returned (.bool true) ∧ ∃ q, w' = w.drewN q := by
  have HL : Hid (zs.length = n) := hl
  clear hl
  go_enter Try.func20, Try.ntmps20
  go_wp2
  go_loopw [5] (fun i wr => ∃ k q : Nat, k ≤ n ∧ i = .int .i64 k ∧ wr = w.drewN q) (fun i _ => n - (intOf i).toNat)
  case atStart => exact ⟨0, 0, Nat.zero_le _, rfl, rfl⟩
  case round =>
    obtain ⟨k, q, hk, rfl, rfl⟩ := hrel
    by_cases hlt : k < n
    · obtain ⟨b1, o1, rfl, _, c1⟩ := ha k (by rw [HL.out]; exact hlt)
      obtain ⟨b2, o2, rfl, _, c2⟩ := hb k (by rw [HL.out]; exact hlt)
      have hk0 : (0 : Int) ≤ (k : Int) := by omega
      have hki : (k : Int) < (n : Int) := by omega
      clear ha hb
      go_wp2
      go_quiet (fail)
      go_wp2
      go_roundw
      case rel => exact ⟨k + 1, _, by omega, by go_num, rfl⟩
      case measure => simp [intOf]; omega
    · go_wp2
      go_ret
      exact ⟨rfl, q, rfl⟩

end Go.Proofs.Ytmobologlaeefac

/-
  raws of the laws of layer 2 answers true of two lists of instructions that are the same; head answers the words of a head.
-/
namespace Go.Proofs.Ytmobologlaeefac
open Go.RowKit
set_option maxRecDepth 10000

theorem quiet_words {a b : Option Addr} {n ca cb : Nat} {zs : List Int} {w : World} (ha : View .u32 w a zs) (hb : View .u32 w b zs) (hl : zs.length = n) (hn : n ≤ 140737488351232) (q : Nat) :
    Calls Try.prog 20 #[.slice a n ca, .slice b n cb] (w.drewN q) fun e w' => e = .returned (.bool true) ∧ ∃ m, w' = w.drewN m := by
  refine (words_true a b n ca cb zs (w.drewN q) (ha.drew q) (hb.drew q) hl hn).mono ?_
  rintro e w' ⟨he, m, hm⟩
  exact ⟨he, q + m, by rw [hm, World.drewN_drewN]⟩

end Go.Proofs.Ytmobologlaeefac

/-
  SpoilWords of the kit writes over the words of a row of the call's own, and nothing else.
-/
namespace Go.Proofs.Ytmobologlaeefac
open Go.RowKit
set_option maxRecDepth 10000

theorem spoil_nil (a : Option Addr) (cap : Nat) (w : World) :
    Calls Try.prog 22 #[.slice a 0 cap] w fun e w' => e = .returned (.tuple #[]) ∧ w = w' := by
  go_enter Try.func22, Try.ntmps22
  go_wp2
  refine wp_loop_rounds 1 ?_
  rw [rounds_succ]
  go_wp2
  go_end0
  exact ⟨rfl, rfl⟩

set_option maxHeartbeats 400000 in
theorem spoil_keep (g n cap B : Nat) (zs : List Int) (w : World) (hown : w.ownsRow B 22 1 (.slice (some ⟨g, 0, none⟩) n cap) n (zs.map (Value.int .u32))) (hl : zs.length = n) (hn : 4 * n ≤ 140737488351232) :
    Calls Try.prog 22 #[.slice (some ⟨g, 0, none⟩) n cap] w fun e w' => e = .returned (.tuple #[]) ∧ w.grownBy w' (some g) ∧ ∃ cs : List Int, cs.length = n ∧ w'.ownsRow B 22 1 (.slice (some ⟨g, 0, none⟩) n cap) n (cs.map (Value.int .u32)) := by
  go_enter Try.func22, Try.ntmps22
  go_wp2
  go_loopw [2] (fun i wr => ∃ (k : Nat) (cs : List Int), k ≤ n ∧ i = .int .i64 k ∧ cs.length = n ∧ wr.ownsRow B 22 1 (.slice (some ⟨g, 0, none⟩) n cap) n (cs.map (Value.int .u32)) ∧ w.grownBy wr (some g))
    (fun i _ => n - (intOf i).toNat)
  case atStart => exact ⟨0, zs, Nat.zero_le _, rfl, hl, hown, World.grownBy.refl _ _⟩
  case round =>
    obtain ⟨k, cs, hk, rfl, hcl, hownr, hgr⟩ := hrel
    have HCL : Hid (cs.length = n) := hcl
    clear hcl hown hl
    by_cases hlt : k < n
    · have hd : wr.cell? ⟨g, k, none⟩ = some (.int .u32 (nth cs k)) := by
        obtain ⟨b, off, e1, _, hc⟩ := View.ofRow hownr HCL.out k (by rw [HCL.out]; exact hlt)
        simp at e1
        obtain ⟨rfl, rfl⟩ := e1
        rw [Nat.zero_add] at hc
        exact hc
      have hf : wr.frozen? ⟨g, k, none⟩ = false := hownr.frozenAt _
      have hs := hownr.stored k (.int .u32 1515870810)
      rw [← List.map_set] at hs
      obtain ⟨hs1, hs2⟩ := hs
      generalize nth cs k = x at hd
      clear hownr
      go_wp2
      go_roundw
      case rel => exact ⟨k + 1, cs.set k 1515870810, by omega, by go_num, by rw [List.length_set]; exact HCL.out, hs1, hgr.trans hs2⟩
      case measure => simp [intOf]; omega
    · go_wp2
      go_end0
      exact ⟨rfl, hgr, cs, HCL.out, hownr⟩

theorem spoil_some (g n cap B : Nat) (zs : List Int) (w : World) (hown : w.ownsRow B 22 1 (.slice (some ⟨g, 0, none⟩) n cap) n (zs.map (Value.int .u32))) (hl : zs.length = n) (hn : 4 * n ≤ 140737488351232) :
    Calls Try.prog 22 #[.slice (some ⟨g, 0, none⟩) n cap] w fun e w' => e = .returned (.tuple #[]) ∧ w.grownBy w' (some g) :=
  (spoil_keep g n cap B zs w hown hl hn).mono fun _ _ h => ⟨h.1, h.2.1⟩

/-- Of any row of the call's own. -/
theorem spoil_own (v : Value) (n B : Nat) (zs : List Int) (w : World) (hown : w.ownsRow B 22 1 v n (zs.map (Value.int .u32))) (hl : zs.length = n) (hn : 4 * n ≤ 140737488351232) :
    Calls Try.prog 22 #[v] w fun e w' => e = .returned (.tuple #[]) ∧ w.grownBy w' v.ownBlock ∧ ∃ cs : List Int, cs.length = n ∧ w'.ownsRow B 22 1 v n (cs.map (Value.int .u32)) := by
  have hown0 := hown
  rcases hown0.2 with ⟨rfl, rfl⟩ | ⟨g, c, cur, rfl, _⟩
  · refine (spoil_nil none 0 w).mono ?_
    rintro e w' ⟨he, rfl⟩
    exact ⟨he, World.grownBy.refl _ _, zs, hl, hown⟩
  · exact (spoil_keep g n c B zs w hown hl hn).mono fun _ _ h => h

end Go.Proofs.Ytmobologlaeefac
