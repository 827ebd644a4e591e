/-
  Texts laid together in one: MathC, CodeIds, MathU, MathV, MathW, MathJ, LayoutKindO, LayoutKindA, LayoutKindB, LayoutKindC, LayoutKindD, LayoutKindE, LayoutKindF, LayoutKindOf, Slots, KitInst.
-/
import Derived.Test.YtjjoggpddafajaaGreatB06
import Derived.WalkSpells
import Derived.WalkMore
import Derived.Laws.AppendOwn
import Derived.Test.YtjjoggpddafajaaGreatB01
import Derived.KernelRfl
import Derived.Test.YtjjoggpddafajaaGreatProg
import Derived.WalkKit
import Derived.Deep.QuietTactic
import Derived.BigQuiet
/-
  Plain facts on modules as words: the first instruction that is wrong, and all instructions' words.
-/
namespace Go.Proofs.YtjjoggpddafajaaGreat
open Go.RowKit
set_option linter.unusedVariables false

/-- The first instruction that is wrong, or that has too many words. -/
def shapeF (b : Int) : Nat → Nat → List InstT → Int × Nat
  | _, _, [] => (0, 0)
  | k, c, x :: l => if rawE x b ≠ 0 then (rawE x b, k) else if 1048576 < c + 1 + (rawWs x b).length then (4, k) else shapeF b (k + 1) (c + 1 + (rawWs x b).length) l
def shapeE (b : Int) (l : List InstT) : Int × Nat := if b = 0 ∨ 65536 < b then (24, 0) else shapeF b 0 5 l
/-- A module's instructions as words. -/
def rawsL (b : Int) (l : List InstT) : List (Int × List Int) := l.map fun x => (x.1, rawWs x b)
/-- What raws answers. -/
def rawsR (b : Int) (l : List InstT) : List (Int × List Int) := if (shapeE b l).1 = 0 then rawsL b l else []

theorem rawsL_len (b : Int) (l : List InstT) : (rawsL b l).length = l.length := by simp [rawsL]
theorem nthR_raws (b : Int) (l : List InstT) (k : Nat) (h : k < l.length) : nthR (rawsL b l) k = ((nthI l k).1, rawWs (nthI l k) b) := by
  rw [nthI_lt _ _ h]; simp [nthR, rawsL, List.getD, h]
theorem rawsL_take (b : Int) (l : List InstT) (k : Nat) (h : k < l.length) : rawsL b (l.take (k + 1)) = rawsL b (l.take k) ++ [((nthI l k).1, rawWs (nthI l k) b)] := by
  unfold rawsL
  rw [List.take_add_one, List.getElem?_eq_getElem h, nthI_lt _ _ h, List.map_append]; rfl
theorem dropI (l : List InstT) (k : Nat) (h : k < l.length) : l.drop k = nthI l k :: l.drop (k + 1) := by
  rw [nthI_lt _ _ h]; exact List.drop_eq_getElem_cons h

theorem shape_end (b : Int) (l : List InstT) (k c : Nat) (h : l.length ≤ k) : shapeF b k c (l.drop k) = (0, 0) := by
  rw [List.drop_eq_nil_of_le h]; rfl
theorem shape_step (b : Int) (l : List InstT) (k : Nat) (h : k < l.length) : shapeF b k (sizeTo (rawsL b l) k) (l.drop k) = if rawE (nthI l k) b ≠ 0 then (rawE (nthI l k) b, k) else if 1048576 < sizeTo (rawsL b l) (k + 1) then (4, k) else shapeF b (k + 1) (sizeTo (rawsL b l) (k + 1)) (l.drop (k + 1)) := by
  rw [dropI l k h, shapeF, sizeTo_succ (rawsL b l) k (by rw [rawsL_len]; exact h), nthR_raws b l k h]
theorem shape_any (b : Int) : ∀ (l : List InstT) (k c : Nat), shapeF b k c l = (0, 0) ∨ (shapeF b k c l).1 ≠ 0
  | [], _, _ => .inl rfl
  | x :: l, k, c => by
    rw [shapeF]
    by_cases h1 : rawE x b ≠ 0
    · rw [if_pos h1]; exact .inr h1
    · rw [if_neg h1]
      split
      · exact .inr (by simp)
      · exact shape_any b l _ _
theorem shapeE_any (b : Int) (l : List InstT) : shapeE b l = (0, 0) ∨ (shapeE b l).1 ≠ 0 := by
  unfold shapeE
  split
  · exact .inr (by decide)
  · exact shape_any b l 0 5

theorem rawWs_ok {x : InstT} {b : Int} (h : rawE x b = 0) : (lookF refT x.1).2 = true ∧ faultI (lookF refT x.1).1 x b = 0 ∧ rawWs x b = rawL (lookF refT x.1).1 x := by
  have h1 := h
  unfold rawE at h1
  by_cases h2 : (lookF refT x.1).2 = true
  · rw [if_pos h2] at h1
    exact ⟨h2, h1, by unfold rawWs; rw [if_pos h]⟩
  · rw [if_neg h2] at h1; cases h1
theorem faultI_zero {f : Frm} {x : InstT} {b : Int} (h : faultI f x b = 0) : idE f.2.1 x.2.1 b 40 = 0 ∧ idE f.2.2.1 x.2.2.1 b 41 = 0 ∧ wrongL f b 0 x.2.2.2 = 0 ∧ wholeN f x.2.2.2.length = true ∧ 1 + (rawL f x).length ≤ 65535 := by
  unfold faultI at h
  by_cases h1 : idE f.2.1 x.2.1 b 40 = 0
  · rw [if_neg (by simp [h1])] at h
    by_cases h2 : idE f.2.2.1 x.2.2.1 b 41 = 0
    · rw [if_neg (by simp [h2])] at h
      by_cases h3 : wrongL f b 0 x.2.2.2 = 0
      · rw [if_neg (by simp [h3])] at h
        by_cases h4 : wholeN f x.2.2.2.length = true
        · rw [if_neg (by simp [h4])] at h
          by_cases h5 : 65535 < 1 + (rawL f x).length
          · rw [if_pos h5] at h; cases h
          · exact ⟨h1, h2, h3, h4, by omega⟩
        · rw [if_pos (by simpa using h4)] at h; cases h
      · rw [if_pos h3] at h; exact absurd h h3
    · rw [if_pos h2] at h; exact absurd h h2
  · rw [if_pos h1] at h; exact absurd h h1
theorem rawWs_len (x : InstT) (b : Int) : (rawWs x b).length < 65535 := by
  by_cases h : rawE x b = 0
  · obtain ⟨_, h2, h3⟩ := rawWs_ok h
    have := (faultI_zero h2).2.2.2.2
    rw [h3]; omega
  · rw [rawWs, if_neg h]; simp

theorem wordsL_within {l : List ArgT} (h : ArgsOk l) : Within 4294967296 (wordsL l) := by
  intro z hz
  obtain ⟨x, hx, hzx⟩ := List.mem_flatMap.1 hz
  obtain ⟨k, hk, rfl⟩ := List.mem_iff_getElem.1 hx
  have ho := h k hk
  rw [nthA_lt _ _ hk] at ho
  unfold wordsA at hzx
  split at hzx
  · exact textW_within _ z hzx
  · rw [List.mem_singleton] at hzx; subst hzx
    exact ⟨ho.2.2.1, ho.2.2.2.1⟩
theorem rawWs_within {x : InstT} (b : Int) (h : InstOk x) : Within 4294967296 (rawWs x b) := by
  unfold rawWs
  split
  · refine within_append ?_ (wordsL_within h.2.2.2.2.2.2.1)
    unfold headW
    refine within_append ?_ ?_
    · split
      · exact within_one h.2.2.1 h.2.2.2.1
      · exact within_nil
    · split
      · exact within_one h.2.2.2.2.1 h.2.2.2.2.2.1
      · exact within_nil
  · exact within_nil
theorem rawsL_ok (b : Int) {l : List InstT} (h : InstsOk l) : RawsOk (rawsL b l) := by
  intro j hj
  rw [rawsL_len] at hj
  rw [nthR_raws b l j hj]
  have ho := h j hj
  refine ⟨ho.1, ho.2.1, rawWs_within b ho, ?_⟩
  have := rawWs_len (nthI l j) b
  simp only
  omega
theorem rawsR_ok (b : Int) {l : List InstT} (h : InstsOk l) : RawsOk (rawsR b l) := by
  unfold rawsR
  split
  · exact rawsL_ok b h
  · intro j hj; simp at hj

theorem fault_shapeF (b : Int) (l : List InstT) : ∀ d k, l.length - k = d → (shapeF b k (sizeTo (rawsL b l) k) (l.drop k)).1 = 0 → fault (rawsL b l) k = (0, 0)
  | 0, k, hd, _ => fault_end _ _ (by rw [rawsL_len]; omega)
  | d + 1, k, hd, h => by
    have hk : k < l.length := by omega
    rw [shape_step b l k hk] at h
    rw [fault_step _ _ (by rw [rawsL_len]; exact hk), nthR_raws b l k hk]
    have hs := rawWs_len (nthI l k) b
    rw [if_neg (by simp only; omega)]
    by_cases h1 : rawE (nthI l k) b ≠ 0
    · rw [if_pos h1] at h; exact absurd h h1
    · rw [if_neg h1] at h
      by_cases h2 : 1048576 < sizeTo (rawsL b l) (k + 1)
      · rw [if_pos h2] at h; cases h
      · rw [if_neg h2] at h ⊢
        exact fault_shapeF b l d (k + 1) (by omega) h
theorem fault_shape {b : Int} {l : List InstT} (h : (shapeE b l).1 = 0) : fault (rawsL b l) 0 = (0, 0) := by
  unfold shapeE at h
  by_cases h1 : b = 0 ∨ 65536 < b
  · rw [if_pos h1] at h; cases h
  · rw [if_neg h1] at h
    exact fault_shapeF b l _ 0 rfl h
theorem shape_bound {b : Int} {l : List InstT} (h : (shapeE b l).1 = 0) : ¬ b = 0 ∧ ¬ 65536 < b := by
  unfold shapeE at h
  by_cases h1 : b = 0 ∨ 65536 < b
  · rw [if_pos h1] at h; cases h
  · exact ⟨fun h => h1 (.inl h), fun h => h1 (.inr h)⟩
theorem shape_each {b : Int} {l : List InstT} (h : (shapeE b l).1 = 0) (k : Nat) (hk : k < l.length) : rawE (nthI l k) b = 0 := by
  have key : ∀ (l : List InstT) (i c k : Nat), (shapeF b i c l).1 = 0 → k < l.length → rawE (nthI l k) b = 0 := by
    intro l
    induction l with
    | nil => intro i c k _ hk; simp at hk
    | cons x l ih =>
      intro i c k h hk
      rw [shapeF] at h
      by_cases h1 : rawE x b ≠ 0
      · rw [if_pos h1] at h; exact absurd h h1
      · rw [if_neg h1] at h
        cases k with
        | zero => exact Classical.not_not.1 h1
        | succ k =>
          split at h
          · cases h
          · exact ih _ _ k h (by simpa using hk)
  unfold shapeE at h
  by_cases h1 : b = 0 ∨ 65536 < b
  · rw [if_pos h1] at h; cases h
  · rw [if_neg h1] at h
    exact key l 0 5 k h hk
theorem sizeTo_ge (rs : List (Int × List Int)) : ∀ k, k ≤ rs.length → 5 + k ≤ sizeTo rs k
  | 0, _ => by rw [sizeTo_zero]; omega
  | k + 1, h => by rw [sizeTo_succ rs k (by omega)]; have := sizeTo_ge rs k (by omega); omega
/-- A module of good shape has few instructions. -/
theorem shape_few {b : Int} {l : List InstT} (h : (shapeE b l).1 = 0) : l.length ≤ 1048576 ∧ sizeTo (rawsL b l) l.length ≤ 1048576 := by
  have h1 := fault_none (rawsL b l) (by rw [fault_shape h]) l.length (by rw [rawsL_len]; exact Nat.le_refl _)
  have := sizeTo_ge (rawsL b l) l.length (by rw [rawsL_len]; exact Nat.le_refl _)
  omega

end Go.Proofs.YtjjoggpddafajaaGreat

/-
  What Ids of the package code answers, for every instruction.
-/
namespace Go.Proofs.YtjjoggpddafajaaGreat
open Go.RowKit
set_option linter.unusedVariables false
set_option linter.unusedSimpArgs false
set_option maxRecDepth 10000

def idsA (x : ArgT) : List Int := if x.1 = 1 then [x.2.1] else []
/-- The ids that an instruction names, up to an argument. -/
def idsTo (t : Int) (l : List ArgT) (k : Nat) : List Int := (if t = 0 then [] else [t]) ++ (l.take k).flatMap idsA
def idsI (x : InstT) : List Int := idsTo x.2.1 x.2.2.2 x.2.2.2.length

theorem idsTo_zero (t : Int) (l : List ArgT) : idsTo t l 0 = if t = 0 then [] else [t] := by simp [idsTo]
theorem idsTo_succ (t : Int) (l : List ArgT) (k : Nat) (h : k < l.length) : idsTo t l (k + 1) = idsTo t l k ++ idsA (nthA l k) := by
  unfold idsTo
  rw [List.take_add_one, List.getElem?_eq_getElem h, nthA_lt _ _ h, Option.toList_some, List.flatMap_append]
  simp [List.append_assoc]
theorem idsTo_len (t : Int) (l : List ArgT) (k : Nat) : (idsTo t l k).length ≤ 1 + k := by
  unfold idsTo
  have h1 : ((l.take k).flatMap idsA).length ≤ (l.take k).length := by
    generalize l.take k = m
    induction m with
    | nil => simp
    | cons x m ih =>
      rw [List.flatMap_cons, List.length_append, List.length_cons]
      have : (idsA x).length ≤ 1 := by unfold idsA; split <;> simp
      omega
  have h2 : (l.take k).length ≤ k := by rw [List.length_take]; omega
  rw [List.length_append]
  have h3 : (if t = 0 then [] else [t] : List Int).length ≤ 1 := by split <;> simp
  omega

theorem Ids.info : (Tryz.prog.info? 22).map (fun i => (i.zero, i.size, i.bytes)) = some (some (.int .u32 0), 1, 4) := by kernel_rfl

/-- A row of words while it is built, behind a box. -/
structure IdsS (w wr : World) (xo xt xr : Int) (ax : Option Addr) (n cx : Nat) (v : Value) (zs : List Int) : Prop where
  own : wr.ownsRow (w.heap.size + 1) 22 1 v zs.length (zs.map (Value.int .u32))
  box : wr.heap[w.heap.size]? = some (.cells #[.int .u16 xo, .int .u32 xt, .int .u32 xr, .slice ax n cx] 40 (0, 0))
  bel : Below w.heap.size w wr

theorem IdsS.below {w wr wr' : World} {xo xt xr : Int} {ax : Option Addr} {n cx : Nat} {v : Value} {zs : List Int} (h : IdsS w wr xo xt xr ax n cx v zs) (hb : Below wr.heap.size wr wr') : IdsS w wr' xo xt xr ax n cx v zs :=
  ⟨own_below h.own hb, (hb.block _ (Array.getElem?_eq_some_iff.1 h.box).1).trans h.box, h.bel.trans (hb.mono h.bel.size)⟩
/-- Behind an append of one word that lies in a new block. -/
theorem IdsS.push {w wr w5 : World} {xo xt xr : Int} {ax : Option Addr} {n cx : Nat} {v v' : Value} {zs : List Int} {y : Int} (h : IdsS w wr xo xt xr ax n cx v zs) (hg : wr.grownBy w5 v.ownBlock) (hown : w5.ownsRow (w.heap.size + 1) 22 1 v' (zs.length + 1) (zs.map (Value.int .u32) ++ [.int .u32 y])) : IdsS w w5 xo xt xr ax n cx v' (zs ++ [y]) := by
  have hlo : ∀ g, v.ownBlock = some g → w.heap.size + 1 ≤ g := fun g e => (h.own.lt g e).1
  refine ⟨?_, ?_, ?_⟩
  · rw [List.length_append, List.map_append]; exact hown
  · exact (hg.block _ (Array.getElem?_eq_some_iff.1 h.box).1 (fun e => by have := hlo _ e.symm; omega)).trans h.box
  · exact h.bel.grown hg h.bel.size (fun k e => by have := hlo k e; omega)

set_option maxHeartbeats 2000000 in
theorem codeIds_any (x : InstT) (ax : Option Addr) (n cx : Nat) (w : World) (hv : ArgsV w ax x.2.2.2) (hl : x.2.2.2.length = n) (hn : 24 * n ≤ 140737488351232) :
    Calls Tryz.prog 29 #[instV x ax n cx] w fun e w' => Below w.heap.size w w' ∧ ∃ a m c, e = .returned (.slice a m c) ∧ (idsI x).length = m ∧ w'.ownsRow w.heap.size 22 1 (.slice a m c) m ((idsI x).map (Value.int .u32)) := by
  obtain ⟨i0, hi, hz0, hz1, hz2⟩ := info_parts Ids.info
  have HI : Hid (Tryz.prog.info? 22 = some i0 ∧ i0.zero = some (.int .u32 0) ∧ i0.size = 1 ∧ i0.bytes = 4) := ⟨hi, hz0, hz1, hz2⟩
  clear hi hz0 hz1 hz2
  obtain ⟨xo, xt, xr, xl⟩ := x
  unfold instV
  simp only at *
  have HL : Hid (xl.length = n) := hl
  have eI : idsI (xo, xt, xr, xl) = idsTo xt xl n := by unfold idsI; simp only; rw [hl]
  rw [eI]
  clear eI hl
  have hS0 : IdsS w (w.alloc (.cells #[.int .u16 xo, .int .u32 xt, .int .u32 xr, .slice ax n cx] 40)) xo xt xr ax n cx (.slice none 0 0) [] := ⟨World.ownsRow_nil _ _ _ _, alloc_new w _ _, (Below.refl _ w).alloc (Nat.le_refl _) _⟩
  by_cases ht : xt = 0
  · subst ht
    have HS0 : Hid (IdsS w (w.alloc (.cells #[.int .u16 xo, .int .u32 0, .int .u32 xr, .slice ax n cx] 40)) xo 0 xr ax n cx (.slice none 0 0) []) := hS0
    clear hS0
    go_enter Tryz.func29, Tryz.ntmps29
    go_wp2
    go_loopw [3, 17] (fun v i wr => ∃ k : Nat, k ≤ n ∧ i = .int .i64 k ∧ IdsS w wr xo 0 xr ax n cx v (idsTo 0 xl k)) (fun _ i _ => n - (intOf i).toNat)
    case atStart => exact ⟨0, Nat.zero_le _, rfl, by rw [idsTo_zero, if_pos rfl]; exact HS0.out⟩
    case round =>
      obtain ⟨k, hk, rfl, hS⟩ := hrel
      clear HS0
      have hA := hv.below hS.bel
      obtain ⟨a', cap', rfl⟩ : ∃ a cap, u3 = .slice a (idsTo 0 xl k).length cap := by
        rcases hS.own.2 with ⟨rfl, h0⟩ | ⟨g, cap, cur, rfl, _⟩
        · exact ⟨none, 0, by rw [h0]⟩
        · exact ⟨_, _, rfl⟩
      by_cases hlt : k < n
      · have hkl : k < xl.length := by rw [HL.out]; exact hlt
        obtain ⟨b1, o1, rfl, hb1, p1, p2, p3⟩ := hA k hkl
        have hsu := idsTo_succ 0 xl k hkl
        have hln := idsTo_len 0 xl k
        have HSU : Hid _ := hsu
        generalize idsTo 0 xl k = zs at *
        have HS2 : Hid (idsTo 0 xl (k + 1) = zs ++ idsA (nthA xl k)) := HSU.out
        clear hsu HSU
        generalize nthA xl k = z at *
        obtain ⟨z1, z2, z3⟩ := z
        simp only at *
        have hki : (k : Int) < (n : Int) := by omega
        have hk0 : (0 : Int) ≤ (k : Int) := by omega
        have hS4 := hS.below ((Below.refl _ wr).alloc (Nat.le_refl _) (.cells #[.int .u8 z1, .int .u32 z2, .string z3] 48))
        clear hA
        by_cases h1 : z1 = 1
        · subst h1
          have hA1 : idsA (1, z2, z3) = [z2] := by simp [idsA]
          have N1 : Hid (((wr.alloc (.cells #[.int .u8 1, .int .u32 z2, .string z3] 48)).alloc (.cells #[.int .u32 z2] 22)).ownsRow (w.heap.size + 1) 22 1 (.slice a' zs.length cap') zs.length ((zs).map (Value.int .u32))) := own_below hS4.own ((Below.refl _ _).alloc (Nat.le_refl _) _)
          have N2 : Hid (∀ (j : Nat) (u : Value), [Value.int .u32 z2][j]? = some u → ((wr.alloc (.cells #[.int .u8 1, .int .u32 z2, .string z3] 48)).alloc (.cells #[.int .u32 z2] 22)).cell? ((⟨wr.heap.size + 1, 0, none⟩ : Addr).add j) = some u) := World.news_of_block (cs := #[.int .u32 z2]) (t := 22) (fr := (0, 0)) (by first | exact alloc_new _ _ _ | simpa using alloc_new ((wr.alloc (.cells #[.int .u8 1, .int .u32 z2, .string z3] 48))) #[.int .u32 z2] 22)
          have N3 : Hid (∀ u : Value, u ∈ [Value.int .u32 z2] → u.oneCell' = true) := by intro u hu; simp at hu; subst hu; rfl
          have N4 : zs.length + 1 ≤ maxLen := by unfold maxLen; omega
          have N5 : (zs.length + 1) * 4 ≤ 140737488355328 := by omega
          have N6 : Hid (w.heap.size + 1 ≤ ((wr.alloc (.cells #[.int .u8 1, .int .u32 z2, .string z3] 48)).alloc (.cells #[.int .u32 z2] 22)).heap.size) := by show _ ≤ _; rw [World.size_alloc]; have := (Array.getElem?_eq_some_iff.1 hS4.box).1; omega
          have HS : Hid (IdsS w ((wr.alloc (.cells #[.int .u8 1, .int .u32 z2, .string z3] 48)).alloc (.cells #[.int .u32 z2] 22)) xo 0 xr (some ⟨b1, o1, none⟩) n cx (.slice a' zs.length cap') zs) := hS4.below ((Below.refl _ _).alloc (Nat.le_refl _) _)
          go_wp2_with (at_builtin; refine wpList_append_own _ rfl (.tmp 24) (.tmp 27) 36 rfl (w.heap.size + 1) 22 i0 (.int .u32 0) 1 4 Tryz.underlying36 HI.out.1 HI.out.2.1 HI.out.2.2.1 HI.out.2.2.2 rfl (by decide) _ zs.length (zs.map (Value.int .u32)) rfl N1.out ⟨wr.heap.size + 1, 0, none⟩ 1 1 [.int .u32 z2] rfl rfl N2.out N3.out N4 N5 N6.out ?_)
          intro v5 w5 hown5 hgr5 _
          have hS5 := HS.out.push hgr5 hown5
          obtain ⟨a6, cap6, rfl⟩ : ∃ a cap, v5 = .slice a (zs.length + 1) cap := by
            rcases hown5.2 with ⟨_, h0⟩ | ⟨g, cap, cur, rfl, _⟩
            · omega
            · exact ⟨_, _, rfl⟩
          clear hown5 hgr5 N1 N2 N3 N6 HS hS4
          go_wp2
          go_roundw
          case rel => exact ⟨k + 1, by omega, by go_num, by rw [HS2.out, hA1]; exact hS5⟩
          case measure => simp [intOf]; omega
        · have hA1 : idsA (z1, z2, z3) = [] := by simp [idsA, h1]
          have HS4 : Hid (IdsS w (wr.alloc (.cells #[.int .u8 z1, .int .u32 z2, .string z3] 48)) xo 0 xr (some ⟨b1, o1, none⟩) n cx (.slice a' zs.length cap') zs) := hS4
          clear hS4
          go_wp2
          go_roundw
          case rel => exact ⟨k + 1, by omega, by go_num, by rw [HS2.out, hA1, List.append_nil]; exact HS4.out⟩
          case measure => simp [intOf]; omega
      · obtain rfl : k = n := by omega
        have hfin := hS.bel
        have hown := hS.own
        clear hS hA
        go_wp2
        go_ret
        refine ⟨hfin, a', _, cap', rfl, rfl, ?_⟩
        refine ⟨hown.1, ?_⟩
        rcases hown.2 with hn0 | ⟨g, cap, cur, e1, hb, rest⟩
        · exact .inl hn0
        · exact .inr ⟨g, cap, cur, e1, by omega, rest⟩
  · have ht' := ht
    have N1 : Hid (((w.alloc (.cells #[.int .u16 xo, .int .u32 xt, .int .u32 xr, .slice ax n cx] 40)).alloc (.cells #[.int .u32 xt] 22)).ownsRow (w.heap.size + 1) 22 1 (.slice none 0 0) ([] : List Int).length ((([] : List Int)).map (Value.int .u32))) := own_below hS0.own ((Below.refl _ _).alloc (Nat.le_refl _) _)
    have N2 : Hid (∀ (j : Nat) (u : Value), [Value.int .u32 xt][j]? = some u → ((w.alloc (.cells #[.int .u16 xo, .int .u32 xt, .int .u32 xr, .slice ax n cx] 40)).alloc (.cells #[.int .u32 xt] 22)).cell? ((⟨w.heap.size + 1, 0, none⟩ : Addr).add j) = some u) := World.news_of_block (cs := #[.int .u32 xt]) (t := 22) (fr := (0, 0)) (by first | exact alloc_new _ _ _ | simpa using alloc_new ((w.alloc (.cells #[.int .u16 xo, .int .u32 xt, .int .u32 xr, .slice ax n cx] 40))) #[.int .u32 xt] 22)
    have N3 : Hid (∀ u : Value, u ∈ [Value.int .u32 xt] → u.oneCell' = true) := by intro u hu; simp at hu; subst hu; rfl
    have N4 : ([] : List Int).length + 1 ≤ maxLen := by unfold maxLen; simp
    have N5 : (([] : List Int).length + 1) * 4 ≤ 140737488355328 := by simp
    have N6 : Hid (w.heap.size + 1 ≤ ((w.alloc (.cells #[.int .u16 xo, .int .u32 xt, .int .u32 xr, .slice ax n cx] 40)).alloc (.cells #[.int .u32 xt] 22)).heap.size) := by show _ ≤ _; rw [World.size_alloc]; have := (Array.getElem?_eq_some_iff.1 hS0.box).1; omega
    have HS : Hid (IdsS w ((w.alloc (.cells #[.int .u16 xo, .int .u32 xt, .int .u32 xr, .slice ax n cx] 40)).alloc (.cells #[.int .u32 xt] 22)) xo xt xr ax n cx (.slice none 0 0) ([] : List Int)) := hS0.below ((Below.refl _ _).alloc (Nat.le_refl _) _)
    clear hS0
    go_enter Tryz.func29, Tryz.ntmps29
    go_wp2_with (at_builtin; refine wpList_append_own _ rfl (.tmp 9) (.tmp 12) 36 rfl (w.heap.size + 1) 22 i0 (.int .u32 0) 1 4 Tryz.underlying36 HI.out.1 HI.out.2.1 HI.out.2.2.1 HI.out.2.2.2 rfl (by decide) _ 0 [] rfl N1.out ⟨w.heap.size + 1, 0, none⟩ 1 1 [.int .u32 xt] rfl rfl N2.out N3.out N4 N5 N6.out ?_)
    intro v5 w5 hown5 hgr5 _
    have hS5 := HS.out.push hgr5 hown5
    obtain ⟨a5, cap5, rfl⟩ : ∃ a cap, v5 = .slice a 1 cap := by
      rcases hown5.2 with ⟨_, h0⟩ | ⟨g, cap, cur, rfl, _⟩
      · cases h0
      · exact ⟨_, _, rfl⟩
    have b3 := (one_block hS5.box).1 3
    have HS5 : Hid (IdsS w w5 xo xt xr ax n cx (.slice a5 1 cap5) [xt]) := hS5
    clear hown5 hgr5 N1 N2 N3 N6 HS N4 N5 hS5
    go_wp2
    go_loopw [3, 17] (fun v i wr => ∃ k : Nat, k ≤ n ∧ i = .int .i64 k ∧ IdsS w wr xo xt xr ax n cx v (idsTo xt xl k)) (fun _ i _ => n - (intOf i).toNat)
    case atStart => exact ⟨0, Nat.zero_le _, rfl, by rw [idsTo_zero, if_neg ht']; exact HS5.out⟩
    case round =>
      obtain ⟨k, hk, rfl, hS⟩ := hrel
      clear HS5
      have hA := hv.below hS.bel
      obtain ⟨a', cap', rfl⟩ : ∃ a cap, u3 = .slice a (idsTo xt xl k).length cap := by
        rcases hS.own.2 with ⟨rfl, h0⟩ | ⟨g, cap, cur, rfl, _⟩
        · exact ⟨none, 0, by rw [h0]⟩
        · exact ⟨_, _, rfl⟩
      by_cases hlt : k < n
      · have hkl : k < xl.length := by rw [HL.out]; exact hlt
        obtain ⟨b1, o1, rfl, hb1, p1, p2, p3⟩ := hA k hkl
        have hsu := idsTo_succ xt xl k hkl
        have hln := idsTo_len xt xl k
        have HSU : Hid _ := hsu
        generalize idsTo xt xl k = zs at *
        have HS2 : Hid (idsTo xt xl (k + 1) = zs ++ idsA (nthA xl k)) := HSU.out
        clear hsu HSU
        generalize nthA xl k = z at *
        obtain ⟨z1, z2, z3⟩ := z
        simp only at *
        have hki : (k : Int) < (n : Int) := by omega
        have hk0 : (0 : Int) ≤ (k : Int) := by omega
        have hS4 := hS.below ((Below.refl _ wr).alloc (Nat.le_refl _) (.cells #[.int .u8 z1, .int .u32 z2, .string z3] 48))
        clear hA
        by_cases h1 : z1 = 1
        · subst h1
          have hA1 : idsA (1, z2, z3) = [z2] := by simp [idsA]
          have N1 : Hid (((wr.alloc (.cells #[.int .u8 1, .int .u32 z2, .string z3] 48)).alloc (.cells #[.int .u32 z2] 22)).ownsRow (w.heap.size + 1) 22 1 (.slice a' zs.length cap') zs.length ((zs).map (Value.int .u32))) := own_below hS4.own ((Below.refl _ _).alloc (Nat.le_refl _) _)
          have N2 : Hid (∀ (j : Nat) (u : Value), [Value.int .u32 z2][j]? = some u → ((wr.alloc (.cells #[.int .u8 1, .int .u32 z2, .string z3] 48)).alloc (.cells #[.int .u32 z2] 22)).cell? ((⟨wr.heap.size + 1, 0, none⟩ : Addr).add j) = some u) := World.news_of_block (cs := #[.int .u32 z2]) (t := 22) (fr := (0, 0)) (by first | exact alloc_new _ _ _ | simpa using alloc_new ((wr.alloc (.cells #[.int .u8 1, .int .u32 z2, .string z3] 48))) #[.int .u32 z2] 22)
          have N3 : Hid (∀ u : Value, u ∈ [Value.int .u32 z2] → u.oneCell' = true) := by intro u hu; simp at hu; subst hu; rfl
          have N4 : zs.length + 1 ≤ maxLen := by unfold maxLen; omega
          have N5 : (zs.length + 1) * 4 ≤ 140737488355328 := by omega
          have N6 : Hid (w.heap.size + 1 ≤ ((wr.alloc (.cells #[.int .u8 1, .int .u32 z2, .string z3] 48)).alloc (.cells #[.int .u32 z2] 22)).heap.size) := by show _ ≤ _; rw [World.size_alloc]; have := (Array.getElem?_eq_some_iff.1 hS4.box).1; omega
          have HS : Hid (IdsS w ((wr.alloc (.cells #[.int .u8 1, .int .u32 z2, .string z3] 48)).alloc (.cells #[.int .u32 z2] 22)) xo xt xr (some ⟨b1, o1, none⟩) n cx (.slice a' zs.length cap') zs) := hS4.below ((Below.refl _ _).alloc (Nat.le_refl _) _)
          go_wp2_with (at_builtin; refine wpList_append_own _ rfl (.tmp 24) (.tmp 27) 36 rfl (w.heap.size + 1) 22 i0 (.int .u32 0) 1 4 Tryz.underlying36 HI.out.1 HI.out.2.1 HI.out.2.2.1 HI.out.2.2.2 rfl (by decide) _ zs.length (zs.map (Value.int .u32)) rfl N1.out ⟨wr.heap.size + 1, 0, none⟩ 1 1 [.int .u32 z2] rfl rfl N2.out N3.out N4 N5 N6.out ?_)
          intro v5 w5 hown5 hgr5 _
          have hS5 := HS.out.push hgr5 hown5
          obtain ⟨a6, cap6, rfl⟩ : ∃ a cap, v5 = .slice a (zs.length + 1) cap := by
            rcases hown5.2 with ⟨_, h0⟩ | ⟨g, cap, cur, rfl, _⟩
            · omega
            · exact ⟨_, _, rfl⟩
          clear hown5 hgr5 N1 N2 N3 N6 HS hS4
          go_wp2
          go_roundw
          case rel => exact ⟨k + 1, by omega, by go_num, by rw [HS2.out, hA1]; exact hS5⟩
          case measure => simp [intOf]; omega
        · have hA1 : idsA (z1, z2, z3) = [] := by simp [idsA, h1]
          have HS4 : Hid (IdsS w (wr.alloc (.cells #[.int .u8 z1, .int .u32 z2, .string z3] 48)) xo xt xr (some ⟨b1, o1, none⟩) n cx (.slice a' zs.length cap') zs) := hS4
          clear hS4
          go_wp2
          go_roundw
          case rel => exact ⟨k + 1, by omega, by go_num, by rw [HS2.out, hA1, List.append_nil]; exact HS4.out⟩
          case measure => simp [intOf]; omega
      · obtain rfl : k = n := by omega
        have hfin := hS.bel
        have hown := hS.own
        clear hS hA
        go_wp2
        go_ret
        refine ⟨hfin, a', _, cap', rfl, rfl, ?_⟩
        refine ⟨hown.1, ?_⟩
        rcases hown.2 with hn0 | ⟨g, cap, cur, e1, hb, rest⟩
        · exact .inl hn0
        · exact .inr ⟨g, cap, cur, e1, by omega, rest⟩

end Go.Proofs.YtjjoggpddafajaaGreat

/-
  Plain facts on who makes an id and who names it.
-/
namespace Go.Proofs.YtjjoggpddafajaaGreat
open Go.RowKit
set_option linter.unusedVariables false

/-- The places, up to one, of the instructions that name an id. -/
def usesTo (l : List InstT) (id : Int) : Nat → List Int
  | 0 => []
  | k + 1 => usesTo l id k ++ (if id ∈ idsI (nthI l k) then [(k : Int)] else [])
theorem usesTo_len (l : List InstT) (id : Int) : ∀ k, (usesTo l id k).length ≤ k
  | 0 => by simp [usesTo]
  | k + 1 => by
    have := usesTo_len l id k
    rw [usesTo, List.length_append]
    split <;> simp <;> omega
/-- What Uses answers. -/
def usesL (b : Int) (l : List InstT) (id : Int) : List Int := if (shapeE b l).1 = 0 then usesTo l id l.length else []

/-- Does an instruction name an id by a text? -/
def namesX (x : InstT) (id : Int) : Bool := decide (x.1 = 5) && decide ((nthA x.2.2.2 0).2.1 = id)
/-- The first of them, from a place on. -/
def nameF (l : List InstT) (id : Int) : Nat → Nat → ByteArray × Bool
  | 0, _ => (⟨#[]⟩, false)
  | f + 1, k => if namesX (nthI l k) id = true then ((nthA (nthI l k).2.2.2 1).2.2, true) else nameF l id f (k + 1)
/-- What Name answers. -/
def nameL (b : Int) (l : List InstT) (id : Int) : ByteArray × Bool := if (shapeE b l).1 = 0 then nameF l id l.length 0 else (⟨#[]⟩, false)
/-- An instruction that gives a name has two arguments. -/
theorem name_args {x : InstT} {b : Int} (h : rawE x b = 0) (h5 : x.1 = 5) : x.2.2.2.length = 2 := by
  obtain ⟨h1, h2, _⟩ := rawWs_ok h
  have h4 := (faultI_zero h2).2.2.2.1
  rw [h5] at h4
  have e1 : (lookF refT 5).1.2.2.2.1.size = 2 ∧ (lookF refT 5).1.2.2.2.2.1.size = 0 := ⟨by kernel_rfl, by kernel_rfl⟩
  unfold wholeN at h4
  rw [e1.1, e1.2, if_pos rfl] at h4
  split at h4
  · cases h4
  · have := of_decide_eq_true h4; omega
theorem shape_at {b : Int} {l : List InstT} (h : (shapeE b l).1 = 0) (k : Nat) (hk : k < l.length) : rawE (nthI l k) b = 0 := shape_each h k hk
end Go.Proofs.YtjjoggpddafajaaGreat

/-
  Plain facts on instructions with other ids.
-/
namespace Go.Proofs.YtjjoggpddafajaaGreat
open Go.RowKit
set_option linter.unusedVariables false

/-- An argument, an instruction, instructions with f i for each id i. -/
def tA (f : Int → Int) (a : ArgT) : ArgT := if a.1 = 1 then (a.1, f a.2.1, a.2.2) else a
def tN (f : Int → Int) (i : Int) : Int := if i = 0 then 0 else f i
def turnX (f : Int → Int) (x : InstT) : InstT := (x.1, tN f x.2.1, tN f x.2.2.1, x.2.2.2.map (tA f))
def turnL (f : Int → Int) (l : List InstT) : List InstT := l.map (turnX f)
/-- Its arguments, when the first k have been turned. -/
def turnTo (f : Int → Int) (l : List ArgT) (k : Nat) : List ArgT := (l.take k).map (tA f) ++ l.drop k
theorem turnTo_zero (f : Int → Int) (l : List ArgT) : turnTo f l 0 = l := by simp [turnTo]
theorem turnTo_all (f : Int → Int) (l : List ArgT) : turnTo f l l.length = l.map (tA f) := by simp [turnTo]
theorem turnTo_len (f : Int → Int) (l : List ArgT) (k : Nat) : (turnTo f l k).length = l.length := by simp [turnTo]; omega
theorem turnTo_at (f : Int → Int) (l : List ArgT) (k : Nat) (hk : k < l.length) : nthA (turnTo f l k) k = nthA l k := by
  unfold nthA turnTo
  have hl : ((l.take k).map (tA f)).length = k := by simp; omega
  rw [List.getD_eq_getElem?_getD, List.getD_eq_getElem?_getD, List.getElem?_append_right (by omega), hl, Nat.sub_self, List.getElem?_drop, Nat.add_zero]
theorem turnTo_set (f : Int → Int) (l : List ArgT) (k : Nat) (hk : k < l.length) : (turnTo f l k).set k (tA f (nthA l k)) = turnTo f l (k + 1) := by
  unfold turnTo
  have hl : ((l.take k).map (tA f)).length = k := by simp; omega
  rw [List.set_append_right _ _ (by omega), hl, Nat.sub_self, List.drop_eq_getElem_cons hk, List.set_cons_zero, List.take_add_one, List.getElem?_eq_getElem hk]
  have : nthA l k = l[k] := by simp [nthA, List.getD, hk]
  rw [this, List.map_append, List.append_assoc]
  rfl
theorem turnTo_same (f : Int → Int) (l : List ArgT) (k : Nat) (hk : k < l.length) (h : (nthA l k).1 ≠ 1) : turnTo f l (k + 1) = turnTo f l k := by
  rw [← turnTo_set f l k hk]
  have e : tA f (nthA l k) = nthA (turnTo f l k) k := by rw [turnTo_at f l k hk]; simp [tA, h]
  rw [e]
  have hk' : k < (turnTo f l k).length := by rw [turnTo_len]; exact hk
  have e2 : nthA (turnTo f l k) k = (turnTo f l k)[k] := by simp [nthA, List.getD, hk']
  rw [e2, List.set_getElem_self]
theorem flat_argU : ∀ (l : List ArgT) (k j : Nat), k < l.length → j < 3 → (l.flatMap argC)[k * 3 + j]? = (argC (nthA l k))[j]?
  | [], k, j, h, _ => by simp at h
  | x :: l, 0, j, _, hj => by
    rw [List.flatMap_cons, List.getElem?_append_left (by simp [argC]; omega)]
    simp [nthA]
  | x :: l, k + 1, j, h, hj => by
    rw [List.flatMap_cons, List.getElem?_append_right (by simp [argC]; omega)]
    have e : (k + 1) * 3 + j - (argC x).length = k * 3 + j := by simp [argC]; omega
    rw [e, flat_argU l k j (by simpa using h) hj]
    simp [nthA]
theorem flat_lenU (l : List ArgT) : (l.flatMap argC).length = l.length * 3 := by
  induction l with
  | nil => rfl
  | cons x l ih => rw [List.flatMap_cons, List.length_append, ih]; simp [argC]; omega
theorem flat_setU : ∀ (l : List ArgT) (k : Nat) (v : Int), k < l.length → (l.flatMap argC).set (k * 3 + 1) (.int .u32 v) = (l.set k ((nthA l k).1, v, (nthA l k).2.2)).flatMap argC
  | [], k, v, h => by simp at h
  | x :: l, 0, v, _ => by simp [argC, nthA]
  | x :: l, k + 1, v, h => by
    have e : (k + 1) * 3 + 1 = (argC x).length + (k * 3 + 1) := by simp [argC]; omega
    rw [List.flatMap_cons, e, List.set_append_right _ _ (by omega), Nat.add_sub_cancel_left, flat_setU l k v (by simpa using h)]
    simp [nthA]
/-- A store of a turned id. -/
theorem turn_set (f : Int → Int) (l : List ArgT) (k : Nat) (hk : k < l.length) (h : (nthA l k).1 = 1) : ((turnTo f l k).flatMap argC).set (k * 3 + 1) (.int .u32 (f (nthA l k).2.1)) = (turnTo f l (k + 1)).flatMap argC := by
  rw [flat_setU _ _ _ (by rw [turnTo_len]; exact hk), turnTo_at f l k hk, ← turnTo_set f l k hk]
  congr 2
  simp [tA, h]
theorem turnL_len (f : Int → Int) (l : List InstT) : (turnL f l).length = l.length := by simp [turnL]
theorem turnL_at (f : Int → Int) (l : List InstT) (k : Nat) (hk : k < l.length) : nthI (turnL f l) k = turnX f (nthI l k) := by simp [nthI, turnL, List.getD, hk]
theorem tA_ok {f : Int → Int} (hf : ∀ i, 0 ≤ f i ∧ f i < 4294967296) {a : ArgT} (h : ArgOk a) : ArgOk (tA f a) := by
  unfold tA
  split
  · exact ⟨h.1, h.2.1, (hf _).1, (hf _).2, h.2.2.2.2⟩
  · exact h
theorem turnX_ok {f : Int → Int} (hf : ∀ i, 0 ≤ f i ∧ f i < 4294967296) {x : InstT} (h : InstOk x) : InstOk (turnX f x) := by
  obtain ⟨h1, h2, h3, h4, h5, h6, h7, h8⟩ := h
  have ht : ∀ i, 0 ≤ tN f i ∧ tN f i < 4294967296 := fun i => by unfold tN; split; exact ⟨by omega, by omega⟩; exact hf i
  refine ⟨h1, h2, (ht _).1, (ht _).2, (ht _).1, (ht _).2, fun j hj => ?_, by simpa [turnX] using h8⟩
  simp only [turnX, List.length_map] at hj
  have : nthA (turnX f x).2.2.2 j = tA f (nthA x.2.2.2 j) := by simp [turnX, nthA, List.getD, hj]
  rw [this]
  exact tA_ok hf (h7 j hj)
theorem turnL_ok {f : Int → Int} (hf : ∀ i, 0 ≤ f i ∧ f i < 4294967296) {l : List InstT} (h : InstsOk l) : InstsOk (turnL f l) := fun k hk => by
  rw [turnL_len] at hk
  rw [turnL_at f l k hk]
  exact turnX_ok hf (h k hk)
end Go.Proofs.YtjjoggpddafajaaGreat

/-
  Plain facts on numbers that are those below a bound, each once.
-/
namespace Go.Proofs.YtjjoggpddafajaaGreat
open Go.RowKit
set_option linter.unusedVariables false

theorem nodup_len : ∀ (l l' : List Int), l.Nodup → (∀ x ∈ l, x ∈ l') → l.length ≤ l'.length
  | [], _, _, _ => by simp
  | a :: t, l', hn, hs => by
    have ha := hs a (by simp)
    obtain ⟨hn1, hn2⟩ := List.nodup_cons.1 hn
    have := nodup_len t (l'.erase a) hn2 (fun x hx => (List.mem_erase_of_ne (fun e => hn1 (by rw [← e]; exact hx))).2 (hs x (by simp [hx])))
    rw [List.length_erase_of_mem ha] at this
    have hp := List.length_pos_of_mem ha
    simp only [List.length_cons]
    omega
/-- The numbers from 1 to m. -/
def upTo (m : Nat) : List Int := (List.range m).map fun (k : Nat) => (k : Int) + 1
theorem upTo_len (m : Nat) : (upTo m).length = m := by simp [upTo]
theorem upTo_mem (m : Nat) (i : Int) : i ∈ upTo m ↔ 1 ≤ i ∧ i ≤ m := by
  unfold upTo
  rw [List.mem_map]
  constructor
  · rintro ⟨k, hk, rfl⟩; rw [List.mem_range] at hk; omega
  · rintro ⟨h1, h2⟩; exact ⟨(i - 1).toNat, by rw [List.mem_range]; omega, by omega⟩
theorem upTo_nodup : ∀ m : Nat, (upTo m).Nodup
  | 0 => by simp [upTo]
  | m + 1 => by
    have e : upTo (m + 1) = upTo m ++ [(m : Int) + 1] := by simp [upTo, List.range_succ]
    rw [e, List.nodup_append]
    refine ⟨upTo_nodup m, by simp, fun a ha b hb => ?_⟩
    rw [List.mem_singleton] at hb
    have := (upTo_mem m a).1 ha
    omega
/-- Each of the numbers from 1 to m once, among m numbers: just if those are different numbers from 1 to m. -/
theorem once_iff (t : List Int) (m : Nat) (hl : t.length = m) : (∀ i : Int, 1 ≤ i → i ≤ m → t.count i = 1) ↔ t.Nodup ∧ ∀ z ∈ t, 1 ≤ z ∧ z ≤ m := by
  constructor
  · intro h
    have hsub : ∀ x ∈ upTo m, x ∈ t := fun x hx => by
      have := (upTo_mem m x).1 hx
      exact List.count_pos_iff.1 (by rw [h x this.1 this.2]; omega)
    have hin : ∀ z ∈ t, 1 ≤ z ∧ z ≤ m := fun z hz => by
      by_cases hm : z ∈ upTo m
      · exact (upTo_mem m z).1 hm
      · exfalso
        have := nodup_len (z :: upTo m) t (List.nodup_cons.2 ⟨hm, upTo_nodup m⟩) (fun x hx => by
          rcases List.mem_cons.1 hx with rfl | hx
          · exact hz
          · exact hsub x hx)
        rw [List.length_cons, upTo_len] at this
        omega
    refine ⟨List.nodup_iff_count.2 fun a => ?_, hin⟩
    by_cases ha : a ∈ t
    · have := hin a ha; rw [h a this.1 this.2]; omega
    · rw [List.count_eq_zero.2 ha]; omega
  · rintro ⟨hn, hin⟩ i h1 h2
    have hle := List.nodup_iff_count.1 hn i
    have hmem : i ∈ t := by
      by_cases hm : i ∈ t
      · exact hm
      · exfalso
        have := nodup_len (i :: t) (upTo m) (List.nodup_cons.2 ⟨hm, hn⟩) (fun x hx => by
          rcases List.mem_cons.1 hx with rfl | hx
          · exact (upTo_mem m x).2 ⟨h1, h2⟩
          · exact (upTo_mem m x).2 (hin x hx))
        rw [List.length_cons, upTo_len] at this
        omega
    have := List.count_pos_iff.2 hmem
    omega
/-- Numbers by which ids may be renamed. -/
def IsWay (zs : List Int) (b : Int) : Prop := (zs.length : Int) = b ∧ nth zs 0 = 0 ∧ (∀ z ∈ zs, z < b) ∧ zs.Nodup
theorem way_iff {zs : List Int} {b : Int} (hw : Within 4294967296 zs) (hl : (zs.length : Int) = b) (h0 : nth zs 0 = 0) (hb : 1 ≤ b) : IsWay zs b ↔ ∀ i : Int, 1 ≤ i → i < b → (zs.drop 1).count i = 1 := by
  cases zs with
  | nil => simp at hl; omega
  | cons x t =>
    simp only [nth, List.getD_cons_zero] at h0
    subst h0
    have hlt : (t.length : Int) + 1 = b := by simpa using hl
    rw [List.drop_one, List.tail_cons]
    have key := once_iff t t.length rfl
    constructor
    · rintro ⟨_, _, h3, h4⟩ i h1 h2
      obtain ⟨n1, n2⟩ := List.nodup_cons.1 h4
      refine key.2 ⟨n2, fun z hz => ?_⟩ i h1 (by omega)
      have := h3 z (by simp [hz])
      have := (hw z (by simp [hz])).1
      have : z ≠ 0 := fun e => n1 (by rw [← e]; exact hz)
      omega
    · intro h
      obtain ⟨k1, k2⟩ := key.1 fun i h1 h2 => h i h1 (by omega)
      refine ⟨hl, rfl, fun z hz => ?_, List.nodup_cons.2 ⟨fun h0 => ?_, k1⟩⟩
      · rcases List.mem_cons.1 hz with rfl | hz
        · omega
        · have := k2 z hz; omega
      · have := k2 0 h0; omega
end Go.Proofs.YtjjoggpddafajaaGreat

/-
  Plain facts on the ids of a module of good shape: each lies below the bound; other ids by a list.
-/
namespace Go.Proofs.YtjjoggpddafajaaGreat
open Go.RowKit
set_option linter.unusedVariables false

def InB (b i : Int) : Prop := 1 ≤ i ∧ i < b
theorem idE_in {must : Bool} {n b e : Int} (h0 : 0 ≤ n) (he : e ≠ 0) (h : idE must n b e = 0) (hn : n ≠ 0) : InB b n := by
  unfold idE at h
  split at h
  · exact absurd h he
  · rename_i h1
    simp [hn] at h1
    subst h1
    split at h
    · cases h
    · rename_i h2
      simp at h2
      exact ⟨by omega, by omega⟩
theorem wrongA_in {c : Int} {x : ArgT} {b : Int} (h0 : 0 ≤ x.2.1) (h : wrongA c x b = 0) (hk : x.1 = 1) : InB b x.2.1 := by
  unfold wrongA at h
  split at h
  · cases h
  · rename_i h1
    rw [if_neg (by omega)] at h
    have hm : mayStandB c x = true := by simpa using h1
    unfold mayStandB at hm
    simp only [Bool.and_eq_true, beq_iff_eq] at hm
    have hkc : kindI c = 1 := by rw [← hm.1.2]; exact hk
    unfold faultW at h
    rw [if_pos hkc] at h
    split at h
    · cases h
    · rename_i h2
      unfold noneB at h2
      simp at h2
      exact ⟨by omega, by omega⟩
theorem wrongL_in {f : Frm} {b : Int} : ∀ (l : List ArgT) (k : Nat), wrongL f b k l = 0 → ∀ j, j < l.length → wrongA (letterI f ((k + j : Nat) : Int)) (nthA l j) b = 0
  | [], _, _, j, hj => by simp at hj
  | x :: l, k, h, j, hj => by
    rw [wrongL] at h
    by_cases h1 : wrongA (letterI f k) x b = 0
    · rw [if_pos h1] at h
      cases j with
      | zero => simpa [nthA] using h1
      | succ j =>
        have := wrongL_in l (k + 1) h j (by simpa using hj)
        rw [show k + (j + 1) = k + 1 + j by omega]
        simpa [nthA] using this
    · rw [if_neg h1] at h; exact absurd h h1
/-- The ids of an instruction that can be written lie below the bound. -/
theorem ids_in {x : InstT} {b : Int} (hok : InstOk x) (h : rawE x b = 0) : (x.2.1 ≠ 0 → InB b x.2.1) ∧ (x.2.2.1 ≠ 0 → InB b x.2.2.1) ∧ ∀ j, j < x.2.2.2.length → (nthA x.2.2.2 j).1 = 1 → InB b (nthA x.2.2.2 j).2.1 := by
  obtain ⟨_, h2, _⟩ := rawWs_ok h
  obtain ⟨i1, i2, i3, _, _⟩ := faultI_zero h2
  obtain ⟨_, _, a3, _, a5, _, a7, _⟩ := hok
  refine ⟨fun hn => idE_in a3 (by decide) i1 hn, fun hn => idE_in a5 (by decide) i2 hn, fun j hj hk => ?_⟩
  exact wrongA_in (a7 j hj).2.2.1 (wrongL_in _ 0 i3 j hj) hk
/-- Other ids, by a list of numbers. -/
def fW (zs : List Int) (i : Int) : Int := nth zs i.toNat
theorem fW_nat (zs : List Int) (k : Nat) : fW zs (k : Int) = nth zs k := rfl
theorem fW_range {zs : List Int} (hw : Within 4294967296 zs) (i : Int) : 0 ≤ fW zs i ∧ fW zs i < 4294967296 := by
  unfold fW
  by_cases h : i.toNat < zs.length
  · exact hw.at h
  · have : nth zs i.toNat = 0 := by unfold nth; rw [List.getD_eq_getElem?_getD, List.getElem?_eq_none (by omega)]; rfl
    rw [this]; omega
end Go.Proofs.YtjjoggpddafajaaGreat

/-
  Sums of bits.
-/
namespace Go.Proofs.YtjjoggpddafajaaGreat
open Go.RowKit
set_option linter.unusedVariables false
set_option linter.unusedSimpArgs false

theorem or512 : bits .or .u16 0 512 = 512 := by decide +kernel
theorem or2048 : bits .or .u16 0 2048 = 2048 := by decide +kernel
theorem or1024 : bits .or .u16 0 1024 = 1024 := by decide +kernel
theorem or2560 : bits .or .u16 2048 512 = 2560 := by decide +kernel
theorem or3072 : bits .or .u16 1024 2048 = 3072 := by decide +kernel
theorem or3584 : bits .or .u16 3072 512 = 3584 := by decide +kernel

end Go.Proofs.YtjjoggpddafajaaGreat

/-
  What kindOf of the package layout answers, of some operations.
-/
namespace Go.Proofs.YtjjoggpddafajaaGreat
open Go.RowKit
set_option linter.unusedVariables false
set_option linter.unusedSimpArgs false

set_option maxHeartbeats 1000000 in
theorem kindOf_54 (w : World) : Calls Tryz.prog 49 #[.int .u16 54] w fun e w' => e = .returned (.int .u16 1) ∧ w = w' := by
  go_enter Tryz.func49, Tryz.ntmps49
  go_wp2
  go_ret
  simp [or512, or1024, or2048, or2560, or3072, or3584]

set_option maxHeartbeats 1000000 in
theorem kindOf_55 (w : World) : Calls Tryz.prog 49 #[.int .u16 55] w fun e w' => e = .returned (.int .u16 2) ∧ w = w' := by
  go_enter Tryz.func49, Tryz.ntmps49
  go_wp2
  go_ret
  simp [or512, or1024, or2048, or2560, or3072, or3584]

set_option maxHeartbeats 1000000 in
theorem kindOf_56 (w : World) : Calls Tryz.prog 49 #[.int .u16 56] w fun e w' => e = .returned (.int .u16 4) ∧ w = w' := by
  go_enter Tryz.func49, Tryz.ntmps49
  go_wp2
  go_ret
  simp [or512, or1024, or2048, or2560, or3072, or3584]

set_option maxHeartbeats 1000000 in
theorem kindOf_248 (w : World) : Calls Tryz.prog 49 #[.int .u16 248] w fun e w' => e = .returned (.int .u16 8) ∧ w = w' := by
  go_enter Tryz.func49, Tryz.ntmps49
  go_wp2
  go_ret
  simp [or512, or1024, or2048, or2560, or3072, or3584]

set_option maxHeartbeats 1000000 in
theorem kindOf_59 (w : World) : Calls Tryz.prog 49 #[.int .u16 59] w fun e w' => e = .returned (.int .u16 16) ∧ w = w' := by
  go_enter Tryz.func49, Tryz.ntmps49
  go_wp2
  go_ret
  simp [or512, or1024, or2048, or2560, or3072, or3584]

set_option maxHeartbeats 1000000 in
theorem kindOf_245 (w : World) : Calls Tryz.prog 49 #[.int .u16 245] w fun e w' => e = .returned (.int .u16 32) ∧ w = w' := by
  go_enter Tryz.func49, Tryz.ntmps49
  go_wp2
  go_ret
  simp [or512, or1024, or2048, or2560, or3072, or3584]

end Go.Proofs.YtjjoggpddafajaaGreat

/-
  What kindOf of the package layout answers, of some operations.
-/
namespace Go.Proofs.YtjjoggpddafajaaGreat
open Go.RowKit
set_option linter.unusedVariables false
set_option linter.unusedSimpArgs false

set_option maxHeartbeats 1000000 in
theorem kindOf_247 (w : World) : Calls Tryz.prog 49 #[.int .u16 247] w fun e w' => e = .returned (.int .u16 128) ∧ w = w' := by
  go_enter Tryz.func49, Tryz.ntmps49
  go_wp2
  go_ret
  simp [or512, or1024, or2048, or2560, or3072, or3584]

set_option maxHeartbeats 1000000 in
theorem kindOf_246 (w : World) : Calls Tryz.prog 49 #[.int .u16 246] w fun e w' => e = .returned (.int .u16 256) ∧ w = w' := by
  go_enter Tryz.func49, Tryz.ntmps49
  go_wp2
  go_ret
  simp [or512, or1024, or2048, or2560, or3072, or3584]

set_option maxHeartbeats 1000000 in
theorem kindOf_250 (w : World) : Calls Tryz.prog 49 #[.int .u16 250] w fun e w' => e = .returned (.int .u16 3584) ∧ w = w' := by
  go_enter Tryz.func49, Tryz.ntmps49
  go_wp2
  go_ret
  simp [or512, or1024, or2048, or2560, or3072, or3584]

end Go.Proofs.YtjjoggpddafajaaGreat

/-
  What kindOf of the package layout answers, of some operations.
-/
namespace Go.Proofs.YtjjoggpddafajaaGreat
open Go.RowKit
set_option linter.unusedVariables false
set_option linter.unusedSimpArgs false

set_option maxHeartbeats 1000000 in
theorem kindOf_249 (w : World) : Calls Tryz.prog 49 #[.int .u16 249] w fun e w' => e = .returned (.int .u16 2560) ∧ w = w' := by
  go_enter Tryz.func49, Tryz.ntmps49
  go_wp2
  go_ret
  simp [or512, or1024, or2048, or2560, or3072, or3584]

set_option maxHeartbeats 1000000 in
theorem kindOf_252 (w : World) : Calls Tryz.prog 49 #[.int .u16 252] w fun e w' => e = .returned (.int .u16 512) ∧ w = w' := by
  go_enter Tryz.func49, Tryz.ntmps49
  go_wp2
  go_ret
  simp [or512, or1024, or2048, or2560, or3072, or3584]

end Go.Proofs.YtjjoggpddafajaaGreat

/-
  What kindOf of the package layout answers, of some operations.
-/
namespace Go.Proofs.YtjjoggpddafajaaGreat
open Go.RowKit
set_option linter.unusedVariables false
set_option linter.unusedSimpArgs false

set_option maxHeartbeats 1000000 in
theorem kindOf_253 (w : World) : Calls Tryz.prog 49 #[.int .u16 253] w fun e w' => e = .returned (.int .u16 512) ∧ w = w' := by
  go_enter Tryz.func49, Tryz.ntmps49
  go_wp2
  go_ret
  simp [or512, or1024, or2048, or2560, or3072, or3584]

set_option maxHeartbeats 1000000 in
theorem kindOf_254 (w : World) : Calls Tryz.prog 49 #[.int .u16 254] w fun e w' => e = .returned (.int .u16 512) ∧ w = w' := by
  go_enter Tryz.func49, Tryz.ntmps49
  go_wp2
  go_ret
  simp [or512, or1024, or2048, or2560, or3072, or3584]

end Go.Proofs.YtjjoggpddafajaaGreat

/-
  What kindOf of the package layout answers, of some operations.
-/
namespace Go.Proofs.YtjjoggpddafajaaGreat
open Go.RowKit
set_option linter.unusedVariables false
set_option linter.unusedSimpArgs false

set_option maxHeartbeats 1000000 in
theorem kindOf_255 (w : World) : Calls Tryz.prog 49 #[.int .u16 255] w fun e w' => e = .returned (.int .u16 512) ∧ w = w' := by
  go_enter Tryz.func49, Tryz.ntmps49
  go_wp2
  go_ret
  simp [or512, or1024, or2048, or2560, or3072, or3584]

set_option maxHeartbeats 1000000 in
theorem kindOf_251 (w : World) : Calls Tryz.prog 49 #[.int .u16 251] w fun e w' => e = .returned (.int .u16 1536) ∧ w = w' := by
  go_enter Tryz.func49, Tryz.ntmps49
  go_wp2
  go_ret
  simp [or512, or1024, or2048, or2560, or3072, or3584]

end Go.Proofs.YtjjoggpddafajaaGreat

/-
  What kindOf of the package layout answers, of some operations.
-/
namespace Go.Proofs.YtjjoggpddafajaaGreat
open Go.RowKit
set_option linter.unusedVariables false
set_option linter.unusedSimpArgs false

set_option maxHeartbeats 1000000 in
theorem kindOf_other (op : Int) (w : World) (h54 : (op == 54) = false) (h55 : (op == 55) = false) (h56 : (op == 56) = false) (h248 : (op == 248) = false) (h59 : (op == 59) = false) (h245 : (op == 245) = false) (h247 : (op == 247) = false) (h246 : (op == 246) = false) (h250 : (op == 250) = false) (h249 : (op == 249) = false) (h252 : (op == 252) = false) (h253 : (op == 253) = false) (h254 : (op == 254) = false) (h255 : (op == 255) = false) (h251 : (op == 251) = false) : Calls Tryz.prog 49 #[.int .u16 op] w fun e w' => e = .returned (.int .u16 64) ∧ w = w' := by
  go_enter Tryz.func49, Tryz.ntmps49
  go_wp2
  go_ret
  simp

end Go.Proofs.YtjjoggpddafajaaGreat

/-
  What kindOf and Ends of the package layout answer, and Ends of the document.
-/
namespace Go.Proofs.YtjjoggpddafajaaGreat
open Go.RowKit
set_option linter.unusedVariables false
set_option linter.unusedSimpArgs false

/-- What an operation is in a function. -/
def kindOp (op : Int) : Int :=
  if op = 54 then 1 else if op = 55 then 2 else if op = 56 then 4 else if op = 248 then 8 else if op = 59 then 16 else if op = 245 then 32 else if op = 247 then 128 else if op = 246 then 256
  else if op = 250 then 3584 else if op = 249 then 2560 else if op = 252 ∨ op = 253 ∨ op = 254 ∨ op = 255 then 512 else if op = 251 then 1536 else 64
/-- Does it end a block? -/
def endsB (op : Int) : Bool := decide (249 ≤ op) && decide (op ≤ 255)

theorem kindOf_any (op : Int) (w : World) : Calls Tryz.prog 49 #[.int .u16 op] w fun e w' => e = .returned (.int .u16 (kindOp op)) ∧ w = w' := by
  by_cases h54 : op = 54
  · subst h54; exact kindOf_54 w
  by_cases h55 : op = 55
  · subst h55; exact kindOf_55 w
  by_cases h56 : op = 56
  · subst h56; exact kindOf_56 w
  by_cases h248 : op = 248
  · subst h248; exact kindOf_248 w
  by_cases h59 : op = 59
  · subst h59; exact kindOf_59 w
  by_cases h245 : op = 245
  · subst h245; exact kindOf_245 w
  by_cases h247 : op = 247
  · subst h247; exact kindOf_247 w
  by_cases h246 : op = 246
  · subst h246; exact kindOf_246 w
  by_cases h250 : op = 250
  · subst h250; exact kindOf_250 w
  by_cases h249 : op = 249
  · subst h249; exact kindOf_249 w
  by_cases h252 : op = 252
  · subst h252; exact kindOf_252 w
  by_cases h253 : op = 253
  · subst h253; exact kindOf_253 w
  by_cases h254 : op = 254
  · subst h254; exact kindOf_254 w
  by_cases h255 : op = 255
  · subst h255; exact kindOf_255 w
  by_cases h251 : op = 251
  · subst h251; exact kindOf_251 w
  have e : kindOp op = 64 := by
    unfold kindOp
    simp [h54, h55, h56, h248, h59, h245, h247, h246, h250, h249, h252, h253, h254, h255, h251]
  rw [e]
  exact kindOf_other op w (by simpa using h54) (by simpa using h55) (by simpa using h56) (by simpa using h248) (by simpa using h59) (by simpa using h245) (by simpa using h247) (by simpa using h246) (by simpa using h250) (by simpa using h249) (by simpa using h252) (by simpa using h253) (by simpa using h254) (by simpa using h255) (by simpa using h251)

end Go.Proofs.YtjjoggpddafajaaGreat

/-
  A frame as its slots: any frame of so many slots is the list of them.
-/
namespace Go.Proofs.YtjjoggpddafajaaGreat
open Go

theorem hide {p : Prop} (h : p) : Go.RowKit.Hid p := h
/-- What a slot holds. -/
def slot (t : Array Value) (i : Nat) : Value := t.getD i undef
theorem frame_eq (t : Array Value) (n : Nat) (h : t.size = n) : t = ((List.range n).map (slot t)).toArray := by
  apply Array.ext
  · simp [h]
  · intro i h1 h2
    simp [slot, Array.getD, h1]
theorem frame99 (t : Array Value) (h : t.size = 99) : t = #[slot t 0, slot t 1, slot t 2, slot t 3, slot t 4, slot t 5, slot t 6, slot t 7, slot t 8, slot t 9, slot t 10, slot t 11, slot t 12, slot t 13, slot t 14, slot t 15, slot t 16, slot t 17, slot t 18, slot t 19, slot t 20, slot t 21, slot t 22, slot t 23, slot t 24, slot t 25, slot t 26, slot t 27, slot t 28, slot t 29, slot t 30, slot t 31, slot t 32, slot t 33, slot t 34, slot t 35, slot t 36, slot t 37, slot t 38, slot t 39, slot t 40, slot t 41, slot t 42, slot t 43, slot t 44, slot t 45, slot t 46, slot t 47, slot t 48, slot t 49, slot t 50, slot t 51, slot t 52, slot t 53, slot t 54, slot t 55, slot t 56, slot t 57, slot t 58, slot t 59, slot t 60, slot t 61, slot t 62, slot t 63, slot t 64, slot t 65, slot t 66, slot t 67, slot t 68, slot t 69, slot t 70, slot t 71, slot t 72, slot t 73, slot t 74, slot t 75, slot t 76, slot t 77, slot t 78, slot t 79, slot t 80, slot t 81, slot t 82, slot t 83, slot t 84, slot t 85, slot t 86, slot t 87, slot t 88, slot t 89, slot t 90, slot t 91, slot t 92, slot t 93, slot t 94, slot t 95, slot t 96, slot t 97, slot t 98] := (frame_eq t 99 h).trans rfl

/-- What holds where a piece of code goes on. -/
def onNormal (K : Act → World → Prop) : Exit → Act → World → Prop
  | .normal, a, w => K a w
  | _, _, _ => False
theorem onNormal_normal (K : Act → World → Prop) (a : Act) (w : World) : onNormal K .normal a w = K a w := rfl
theorem wp_norm {P : Program} {c : Code} {Q : Exit → Act → World → Prop} {a : Act} {w : World} (h : c.wp P (onNormal (Q .normal)) a w) : c.wp P Q a w :=
  wp_mono h fun e a w h => by
    cases e with
    | normal => exact h
    | _ => exact False.elim h

end Go.Proofs.YtjjoggpddafajaaGreat

/-
  Inst of the kit tells whether two instructions are the same.
-/
namespace Go.Proofs.YtjjoggpddafajaaGreat
open Go.RowKit
set_option maxRecDepth 10000

theorem two_boxes (w : World) (o p : Obj) : Below w.heap.size w ((w.alloc o).alloc p) := ((Below.refl _ w).alloc (Nat.le_refl _) _).alloc (by simp) _

theorem block_two (w : World) (xs ys : Array Value) (S T : Nat) :
    (∀ i, ((w.alloc (.cells xs S)).alloc (.cells ys T)).cell? ⟨w.heap.size, i, none⟩ = xs[i]?) ∧ (∀ i, ((w.alloc (.cells xs S)).alloc (.cells ys T)).cell? ⟨w.heap.size + 1, i, none⟩ = ys[i]?) := by
  constructor
  · intro i
    have h : ((w.alloc (.cells xs S)).alloc (.cells ys T)).heap[w.heap.size]? = some (.cells xs S (0, 0)) := (Below.heap_alloc _ _ _ (by simp)).trans (heap_alloc_new w _)
    simp only [World.cell?, h]; rfl
  · intro i
    have h : ((w.alloc (.cells xs S)).alloc (.cells ys T)).heap[w.heap.size + 1]? = some (.cells ys T (0, 0)) := by simpa using heap_alloc_new (w.alloc (.cells xs S)) (.cells ys T)
    simp only [World.cell?, h]; rfl

set_option maxHeartbeats 1000000 in
theorem kitInst_any (x y : InstT) (ax ay : Option Addr) (n m cx cy : Nat) (w : World) (hx : ArgsV w ax x.2.2.2) (hy : ArgsV w ay y.2.2.2) (hlx : x.2.2.2.length = n) (hly : y.2.2.2.length = m) (hn : n ≤ 140737488351232) (hm : m ≤ 140737488351232) :
    Calls Tryz.prog 15 #[instV x ax n cx, instV y ay m cy] w fun e w' => e = .returned (.bool (decide (x = y))) ∧ Below w.heap.size w w' := by
  obtain ⟨xo, xt, xr, xl⟩ := x
  obtain ⟨yo, yt, yr, yl⟩ := y
  unfold instV
  simp only at *
  have HLX : Hid (xl.length = n) := hlx
  have HLY : Hid (yl.length = m) := hly
  clear hlx hly
  by_cases H : xo = yo ∧ xt = yt ∧ xr = yr ∧ n = m
  · obtain ⟨rfl, rfl, rfl, rfl⟩ := H
    have e1 : decide ((xo, xt, xr, xl) = (xo, xt, xr, yl)) = decide (xl = yl) := by simp
    rw [e1]
    go_enter Tryz.func15, Tryz.ntmps15
    go_wp2
    have hB := two_boxes w (.cells #[.int .u16 xo, .int .u32 xt, .int .u32 xr, .slice ax n cx] 40) (.cells #[.int .u16 xo, .int .u32 xt, .int .u32 xr, .slice ay n cy] 40)
    have hx1 := hx.below hB
    have hy1 := hy.below hB
    have hA : ((w.alloc (.cells #[.int .u16 xo, .int .u32 xt, .int .u32 xr, .slice ax n cx] 40)).alloc (.cells #[.int .u16 xo, .int .u32 xt, .int .u32 xr, .slice ay n cy] 40)).cell? ⟨w.heap.size, 3, none⟩ = some (.slice ax n cx) := by simp [go_sem]
    have hA2 : ((w.alloc (.cells #[.int .u16 xo, .int .u32 xt, .int .u32 xr, .slice ax n cx] 40)).alloc (.cells #[.int .u16 xo, .int .u32 xt, .int .u32 xr, .slice ay n cy] 40)).cell? ⟨w.heap.size + 1, 3, none⟩ = some (.slice ay n cy) := by simp [go_sem]
    generalize ((w.alloc (.cells #[.int .u16 xo, .int .u32 xt, .int .u32 xr, .slice ax n cx] 40)).alloc (.cells #[.int .u16 xo, .int .u32 xt, .int .u32 xr, .slice ay n cy] 40)) = W at *
    clear hx hy
    go_loopw [5] (fun i wr => ∃ k q : Nat, k ≤ n ∧ i = .int .i64 k ∧ wr = W.drewN q ∧ ∀ j, j < k → nthA xl j = nthA yl j) (fun i _ => n - (intOf i).toNat)
    case atStart => exact ⟨0, 0, Nat.zero_le _, rfl, rfl, fun j hj => by omega⟩
    case round =>
      obtain ⟨k, q, hk, rfl, rfl, hall⟩ := hrel
      have HALL : Hid (∀ j, j < k → nthA xl j = nthA yl j) := hall
      clear hall
      by_cases hlt : k < n
      · obtain ⟨b1, o1, rfl, _, c1, c2, c3⟩ := hx1 k (by rw [HLX.out]; exact hlt)
        obtain ⟨b2, o2, rfl, _, d1, d2, d3⟩ := hy1 k (by rw [HLY.out]; exact hlt)
        have hk0 : (0 : Int) ≤ (k : Int) := by omega
        have hki : (k : Int) < (n : Int) := by omega
        by_cases he : nthA xl k = nthA yl k
        · rw [← he] at d1 d2 d3
          obtain ⟨z, hz⟩ : ∃ z, z = nthA xl k := ⟨_, rfl⟩
          obtain ⟨z1, z2, z3⟩ := z
          rw [← hz] at c1 c2 c3 d1 d2 d3
          have HE : Hid (nthA xl k = nthA yl k) := he
          clear hx1 hy1 hz he
          go_wp2
          go_quiet (fail)
          go_wp2
          go_roundw
          case rel => exact ⟨k + 1, _, by omega, by go_num, rfl, fun j hj => by
            by_cases hjk : j < k
            · exact HALL.out j hjk
            · obtain rfl : j = k := by omega
              exact HE.out⟩
          case measure => simp [intOf]; omega
        · obtain ⟨z, hz⟩ : ∃ z, z = nthA xl k := ⟨_, rfl⟩
          obtain ⟨y, hy⟩ : ∃ y, y = nthA yl k := ⟨_, rfl⟩
          rw [← hz] at c1 c2 c3
          rw [← hy] at d1 d2 d3
          have HE : Hid (decide (xl = yl) = false) := decide_eq_false (fun h => he (by rw [h]))
          rw [← hz, ← hy] at he
          obtain ⟨z1, z2, z3⟩ := z
          obtain ⟨y1, y2, y3⟩ := y
          clear hx1 hy1 hz hy
          by_cases h1 : z1 = y1
          · subst h1
            by_cases h2 : z2 = y2
            · subst h2
              have h3 : ¬ z3.toList = y3.toList := fun h => he (by rw [str_inj h])
              clear he
              go_wp2
              go_quiet (fail)
              go_wp2
              go_ret
              exact ⟨by rw [HE.out]; rfl, bel_drewN (bel_drewN hB q) _⟩
            · clear he
              go_wp2
              go_quiet (fail)
              go_wp2
              go_ret
              exact ⟨by rw [HE.out]; rfl, bel_drewN (bel_drewN hB q) _⟩
          · clear he
            go_wp2
            go_quiet (fail)
            go_wp2
            go_ret
            exact ⟨by rw [HE.out]; rfl, bel_drewN (bel_drewN hB q) _⟩
      · go_wp2
        go_ret
        refine ⟨?_, bel_drewN hB q⟩
        obtain rfl : k = n := by omega
        show Ending.returned (.bool true) = _
        rw [decide_eq_true]
        exact (argsEq_iff _ _).2 ⟨by rw [HLX.out, HLY.out], fun j hj => HALL.out j (by rw [← HLX.out]; exact hj)⟩
  · have e1 : decide ((xo, xt, xr, xl) = (yo, yt, yr, yl)) = false := by
      rw [decide_eq_false]
      intro h
      simp only [Prod.mk.injEq] at h
      obtain ⟨rfl, rfl, rfl, rfl⟩ := h
      exact H ⟨rfl, rfl, rfl, HLX.out.symm.trans HLY.out⟩
    rw [e1]
    go_enter Tryz.func15, Tryz.ntmps15
    go_wp2
    all_goals first | (exfalso; apply H; refine ⟨rfl, rfl, rfl, ?_⟩; omega) | (go_ret; exact ⟨rfl, two_boxes _ _ _⟩)

end Go.Proofs.YtjjoggpddafajaaGreat
