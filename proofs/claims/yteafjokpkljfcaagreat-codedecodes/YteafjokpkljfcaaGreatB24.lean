/-
  Texts laid together in one: Ref04Inst3, CodeIds, MathU, MathV, RowT, RowW, Slots.
-/
import Derived.Test.YteafjokpkljfcaaGreatB20
import Derived.Test.YteafjokpkljfcaaGreatB21
import Derived.Test.YteafjokpkljfcaaGreatB22
import Derived.Test.YteafjokpkljfcaaGreatB23
import Derived.WalkSpells
import Derived.WalkMore
import Derived.Laws.AppendOwn
import Derived.Test.YteafjokpkljfcaaGreatB01
import Derived.Test.YteafjokpkljfcaaGreatB08
import Derived.KernelRfl
import Derived.Test.YteafjokpkljfcaaGreatB13
import Derived.Test.YteafjokpkljfcaaGreatProg
import Derived.WalkKit
/-
  What Inst of the document's answer returns, for all words and every bound.
-/
namespace Go.Proofs.YteafjokpkljfcaaGreat
open Go.RowKit Go.Shelf
set_option linter.unusedVariables false
set_option linter.unusedSimpArgs false

theorem headTy_ok {zs : List Int} {b : Int} (h : ¬ (headTy true zs b).2 ≠ 0) : 1 ≤ zs.length ∧ (headTy true zs b).1 = nth zs 0 := by
  unfold headTy at *
  rw [if_pos rfl] at *
  by_cases hz : zs.length ≤ 0
  · rw [if_pos hz] at h; exact absurd (by decide) h
  · rw [if_neg hz]; exact ⟨by omega, rfl⟩
theorem headRes_ok {zs : List Int} {b : Int} {p : Nat} (h : ¬ (headRes true zs b p).2 ≠ 0) : p + 1 ≤ zs.length ∧ (headRes true zs b p).1 = nth zs p := by
  unfold headRes at *
  rw [if_pos rfl] at *
  by_cases hz : zs.length ≤ p
  · rw [if_pos hz] at h; exact absurd (by decide) h
  · rw [if_neg hz]; exact ⟨by omega, rfl⟩

theorem refInst_any (op b : Int) (a : Option Addr) (n cap : Nat) (zs : List Int) (w : World) (ha : View .u32 w a zs) (hl : zs.length = n) (hw : Within 4294967296 zs) (hn : 4 * n ≤ 140737488351232) (b0 : 0 ≤ b) (b1 : b < 4294967296) (hcap : n ≤ cap) (hnil : a = none → cap = 0) :
    Calls Tryz.prog 13 #[.agg #[.int .u16 op, .slice a n cap], .int .u32 b] w fun e w' => RefR w (instI op zs b) e w' := by
  unfold instI
  by_cases hbig : 65535 ≤ zs.length
  · rw [if_pos hbig]; exact refInst_large op b a n cap w (by omega)
  · rw [if_neg hbig]
    cases h2 : (lookF refT op).2 with
    | false => rw [if_pos rfl]; exact refInst_none op b a n cap w (by omega) h2
    | true =>
      rw [if_neg (by simp)]
      obtain ⟨f, hf⟩ : ∃ f, lookF refT op = (f, true) := ⟨(lookF refT op).1, Prod.ext rfl h2⟩
      rw [hf]
      have hE := heads_eq f.2.1 f.2.2.1 zs b
      have hG := refInst_heads op b a n cap zs w f hf ha hl hw hn b0 b1 (by omega)
      unfold instF
      dsimp only
      by_cases h1 : (headTy f.2.1 zs b).2 ≠ 0
      · rw [if_pos h1] at hE ⊢
        rw [hE] at hG
        exact hG h1
      · rw [if_neg h1] at hE ⊢
        by_cases h3 : (headRes f.2.2.1 zs b f.2.1.toNat).2 ≠ 0
        · rw [if_pos h3] at hE ⊢
          rw [hE] at hG
          exact hG h3
        · rw [if_neg h3] at hE ⊢
          clear hG
          obtain ⟨f1, ty, re, f4, f5, f6, f7⟩ := f
          dsimp only at *
          rw [ite_not, hl]
          cases ty <;> cases re
          · exact refInst_ff op b a n cap zs w f1 f4 f5 f6 f7 hf ha hl hw hn b0 b1 (by omega) hcap hnil hE (Nat.zero_le _) _ rfl
          · obtain ⟨r1, r2⟩ := headRes_ok h3
            rw [r2]
            exact refInst_ft op b a n cap zs w f1 f4 f5 f6 f7 hf ha hl hw hn b0 b1 (by omega) hcap hnil hE (by rw [← hl]; exact r1) _ rfl
          · obtain ⟨r1, r2⟩ := headTy_ok h1
            rw [r2]
            exact refInst_tf op b a n cap zs w f1 f4 f5 f6 f7 hf ha hl hw hn b0 b1 (by omega) hcap hnil hE (by rw [← hl]; exact r1) _ rfl
          · obtain ⟨r1, r2⟩ := headTy_ok h1
            obtain ⟨s1, s2⟩ := headRes_ok h3
            rw [r2, s2]
            exact refInst_tt op b a n cap zs w f1 f4 f5 f6 f7 hf ha hl hw hn b0 b1 (by omega) hcap hnil hE (by rw [← hl]; exact s1) _ rfl

end Go.Proofs.YteafjokpkljfcaaGreat

/-
  What Ids of the package code answers, for every instruction.
-/
namespace Go.Proofs.YteafjokpkljfcaaGreat
open Go.RowKit
set_option linter.unusedVariables false
set_option linter.unusedSimpArgs false
set_option maxRecDepth 10000

theorem Ids.info : (Tryz.prog.info? 23).map (fun i => (i.zero, i.size, i.bytes)) = some (some (.int .u32 0), 1, 4) := by kernel_rfl

/-- A row of words while it is built, behind a box. -/
structure IdsS (w wr : World) (xo xt xr : Int) (ax : Option Addr) (n cx : Nat) (v : Value) (zs : List Int) : Prop where
  own : wr.ownsRow (w.heap.size + 1) 23 1 v zs.length (zs.map (Value.int .u32))
  box : wr.heap[w.heap.size]? = some (.cells #[.int .u16 xo, .int .u32 xt, .int .u32 xr, .slice ax n cx] 48 (0, 0))
  bel : Below w.heap.size w wr

theorem IdsS.below {w wr wr' : World} {xo xt xr : Int} {ax : Option Addr} {n cx : Nat} {v : Value} {zs : List Int} (h : IdsS w wr xo xt xr ax n cx v zs) (hb : Below wr.heap.size wr wr') : IdsS w wr' xo xt xr ax n cx v zs :=
  ⟨own_below h.own hb, (hb.block _ (Array.getElem?_eq_some_iff.1 h.box).1).trans h.box, h.bel.trans (hb.mono h.bel.size)⟩
/-- Behind an append of one word that lies in a new block. -/
theorem IdsS.push {w wr w5 : World} {xo xt xr : Int} {ax : Option Addr} {n cx : Nat} {v v' : Value} {zs : List Int} {y : Int} (h : IdsS w wr xo xt xr ax n cx v zs) (hg : wr.grownBy w5 v.ownBlock) (hown : w5.ownsRow (w.heap.size + 1) 23 1 v' (zs.length + 1) (zs.map (Value.int .u32) ++ [.int .u32 y])) : IdsS w w5 xo xt xr ax n cx v' (zs ++ [y]) := by
  have hlo : ∀ g, v.ownBlock = some g → w.heap.size + 1 ≤ g := fun g e => (h.own.lt g e).1
  refine ⟨?_, ?_, ?_⟩
  · rw [List.length_append, List.map_append]; exact hown
  · exact (hg.block _ (Array.getElem?_eq_some_iff.1 h.box).1 (fun e => by have := hlo _ e.symm; omega)).trans h.box
  · exact h.bel.grown hg h.bel.size (fun k e => by have := hlo k e; omega)

end Go.Proofs.YteafjokpkljfcaaGreat

/-
  Plain facts on who makes an id and who names it.
-/
namespace Go.Proofs.YteafjokpkljfcaaGreat
open Go.RowKit
set_option linter.unusedVariables false

end Go.Proofs.YteafjokpkljfcaaGreat

/-
  Plain facts on instructions with other ids.
-/
namespace Go.Proofs.YteafjokpkljfcaaGreat
open Go.RowKit
set_option linter.unusedVariables false

theorem flat_argU : ∀ (l : List ArgT) (k j : Nat), k < l.length → j < 3 → (l.flatMap argC)[k * 3 + j]? = (argC (nthA l k))[j]?
  | [], k, j, h, _ => by simp at h
  | x :: l, 0, j, _, hj => by
    rw [List.flatMap_cons, List.getElem?_append_left (by simp [argC]; omega)]
    simp [nthA]
  | x :: l, k + 1, j, h, hj => by
    rw [List.flatMap_cons, List.getElem?_append_right (by simp [argC]; omega)]
    have e : (k + 1) * 3 + j - (argC x).length = k * 3 + j := by simp [argC]; omega
    rw [e, flat_argU l k j (by simpa using h) hj]
    simp [nthA]
end Go.Proofs.YteafjokpkljfcaaGreat

/-
  A row of instructions that is filled one by one, each with arguments of its own, all in memory from a block on.
-/
namespace Go.Proofs.YteafjokpkljfcaaGreat
open Go.RowKit
set_option linter.unusedVariables false
set_option linter.unusedSimpArgs false

theorem RowT.info : (Tryz.prog.info? 48).map (fun i => (i.zero, i.size, i.bytes)) = some (some (.agg #[.int .u16 0, .int .u32 0, .int .u32 0, .slice none 0 0]), 4, 40) := by kernel_rfl
/-- The first k instructions lie in the row at g, the arguments of each in a row of its own from block g + 1 on. -/
structure RowT (w : World) (lo g n k : Nat) (l : List InstT) : Prop where
  row : ∃ cs : Array Value, w.heap[g]? = some (.cells cs 48 (0, 0)) ∧ cs.size = n * 4
  lo : lo ≤ g
  each : ∀ j, j < k → ∃ aj cj nj, w.cell? ⟨g, j * 4, none⟩ = some (.int .u16 (nthI l j).1) ∧ w.cell? ⟨g, j * 4 + 1, none⟩ = some (.int .u32 (nthI l j).2.1) ∧ w.cell? ⟨g, j * 4 + 2, none⟩ = some (.int .u32 (nthI l j).2.2.1) ∧ w.cell? ⟨g, j * 4 + 3, none⟩ = some (.slice aj nj cj) ∧
    (nthI l j).2.2.2.length = nj ∧ w.ownsRow (g + 1) 58 3 (.slice aj nj cj) nj ((nthI l j).2.2.2.flatMap argC)

theorem RowT.below {w w' : World} {lo g n k : Nat} {l : List InstT} (h : RowT w lo g n k l) (hb : Below w.heap.size w w') : RowT w' lo g n k l := by
  obtain ⟨⟨cs, h1, h2⟩, h0, h3⟩ := h
  have hg : g < w.heap.size := (Array.getElem?_eq_some_iff.1 h1).1
  refine ⟨⟨cs, by rw [hb.block g hg]; exact h1, h2⟩, h0, fun j hj => ?_⟩
  obtain ⟨aj, cj, nj, c1, c2, c3, c4, c5, c6⟩ := h3 j hj
  exact ⟨aj, cj, nj, (hb.cell (p := ⟨g, j * 4, none⟩) hg).trans c1, (hb.cell (p := ⟨g, j * 4 + 1, none⟩) hg).trans c2, (hb.cell (p := ⟨g, j * 4 + 2, none⟩) hg).trans c3, (hb.cell (p := ⟨g, j * 4 + 3, none⟩) hg).trans c4, c5, own_below c6 hb⟩
theorem own_lowT {w : World} {lo lo' e size n : Nat} {v : Value} {xs : List Value} (h : w.ownsRow lo e size v n xs) (hl : lo' ≤ lo) : w.ownsRow lo' e size v n xs := by
  refine ⟨h.1, ?_⟩
  rcases h.2 with hn0 | ⟨g, cap, cur, e1, hb, rest⟩
  · exact .inl hn0
  · exact .inr ⟨g, cap, cur, e1, by omega, rest⟩

/-- An instruction is stored. -/
theorem RowT.store {w : World} {lo0 g n k : Nat} {l : List InstT} (h : RowT w lo0 g n k l) (hk : k < n) {x : InstT} (hx : nthI l k = x) {ak : Option Addr} {nk ck lo : Nat} (hl : x.2.2.2.length = nk) (hlo : g < lo) (ho : w.ownsRow lo 58 3 (.slice ak nk ck) nk (x.2.2.2.flatMap argC)) :
    RowT ((((w.setCell ⟨g, k * 4, none⟩ (.int .u16 x.1)).setCell ⟨g, k * 4 + 1, none⟩ (.int .u32 x.2.1)).setCell ⟨g, k * 4 + 2, none⟩ (.int .u32 x.2.2.1)).setCell ⟨g, k * 4 + 3, none⟩ (.slice ak nk ck)) lo0 g n (k + 1) l := by
  obtain ⟨⟨cs, h1, h2⟩, h0, h3⟩ := h
  obtain ⟨W, hW⟩ : ∃ W, W = (((w.setCell ⟨g, k * 4, none⟩ (.int .u16 x.1)).setCell ⟨g, k * 4 + 1, none⟩ (.int .u32 x.2.1)).setCell ⟨g, k * 4 + 2, none⟩ (.int .u32 x.2.2.1)).setCell ⟨g, k * 4 + 3, none⟩ (.slice ak nk ck) := ⟨_, rfl⟩
  have hb : W.heap[g]? = some (.cells ((((cs.setIfInBounds (k * 4) (.int .u16 x.1)).setIfInBounds (k * 4 + 1) (.int .u32 x.2.1)).setIfInBounds (k * 4 + 2) (.int .u32 x.2.2.1)).setIfInBounds (k * 4 + 3) (.slice ak nk ck)) 48 (0, 0)) := by
    rw [hW]; simp [World.setCell, Array.getElem?_modify, h1]
  have cell : ∀ j, W.cell? ⟨g, j, none⟩ = ((((cs.setIfInBounds (k * 4) (.int .u16 x.1)).setIfInBounds (k * 4 + 1) (.int .u32 x.2.1)).setIfInBounds (k * 4 + 2) (.int .u32 x.2.2.1)).setIfInBounds (k * 4 + 3) (.slice ak nk ck))[j]? := fun j => by
    simp [World.cell?, hb]
  have old : ∀ j, w.cell? ⟨g, j, none⟩ = cs[j]? := fun j => by simp [World.cell?, h1]
  have far : ∀ {lo' : Nat} {v : Value} {m : Nat} {xs : List Value}, g < lo' → w.ownsRow lo' 58 3 v m xs → W.ownsRow lo' 58 3 v m xs := fun hlt hm => by
    rw [hW]
    exact ownsRow_setCell_below (ownsRow_setCell_below (ownsRow_setCell_below (ownsRow_setCell_below hm (by simpa using hlt) _) (by simpa using hlt) _) (by simpa using hlt) _) (by simpa using hlt) _
  rw [← hW]
  refine ⟨⟨_, hb, by simp [h2]⟩, h0, fun j hj => ?_⟩
  by_cases hjk : j < k
  · obtain ⟨aj, cj, nj, c1, c2, c3, c4, c5, c6⟩ := h3 j hjk
    rw [old] at c1 c2 c3 c4
    refine ⟨aj, cj, nj, ?_, ?_, ?_, ?_, c5, far (Nat.lt_succ_self _) c6⟩
    all_goals rw [cell, Array.getElem?_setIfInBounds_ne (by omega), Array.getElem?_setIfInBounds_ne (by omega), Array.getElem?_setIfInBounds_ne (by omega), Array.getElem?_setIfInBounds_ne (by omega)]
    · exact c1
    · exact c2
    · exact c3
    · exact c4
  · obtain rfl : j = k := by omega
    rw [hx]
    refine ⟨ak, ck, nk, ?_, ?_, ?_, ?_, hl, far (Nat.lt_succ_self _) (own_lowT ho hlo)⟩
    · rw [cell, Array.getElem?_setIfInBounds_ne (by omega), Array.getElem?_setIfInBounds_ne (by omega), Array.getElem?_setIfInBounds_ne (by omega), Array.getElem?_setIfInBounds_self_of_lt (by omega)]
    · rw [cell, Array.getElem?_setIfInBounds_ne (by omega), Array.getElem?_setIfInBounds_ne (by omega), Array.getElem?_setIfInBounds_self_of_lt (by simp; omega)]
    · rw [cell, Array.getElem?_setIfInBounds_ne (by omega), Array.getElem?_setIfInBounds_self_of_lt (by simp; omega)]
    · rw [cell, Array.getElem?_setIfInBounds_self_of_lt (by simp; omega)]
theorem argsV_ownT {w : World} {B T n cap : Nat} {a : Option Addr} {l : List ArgT} (h : w.ownsRow B T 3 (.slice a n cap) n (l.flatMap argC)) (hl : l.length = n) : ArgsV w a l := by
  intro j hj
  rcases h.2 with ⟨hv, hn⟩ | ⟨g, cap', cur, hv, _, hg, _⟩
  · omega
  · cases hv
    have e := fun r (hr : r < 3) => (h.cellAt (j * 3 + r) (by omega)).trans (flat_argU l j r hj hr)
    refine ⟨g, 0, rfl, (Array.getElem?_eq_some_iff.1 hg).1, ?_, ?_, ?_⟩
    · have := e 0 (by omega); simpa [argC] using this
    · have := e 1 (by omega); simpa [argC] using this
    · have := e 2 (by omega); simpa [argC] using this
theorem own_capT {w : World} {B T n c : Nat} {a : Option Addr} {xs : List Value} (h : w.ownsRow B T 3 (.slice a n c) n xs) : n ≤ c := by
  rcases h.2 with ⟨hv, hn⟩ | ⟨g, cap', cur, hv, _, _, h4, _⟩
  · omega
  · cases hv; exact h4
theorem RowT.view {w : World} {lo g n : Nat} {l : List InstT} (h : RowT w lo g n n l) (hl : l.length = n) : InstsV w (some ⟨g, 0, none⟩) l := by
  intro j hj
  obtain ⟨aj, cj, nj, c1, c2, c3, c4, c5, c6⟩ := h.each j (by omega)
  exact ⟨g, 0, aj, cj, nj, rfl, World.block_lt_of_cell? _ _ c1, by rw [Nat.zero_add]; exact c1, by rw [Nat.zero_add]; exact c2, by rw [Nat.zero_add]; exact c3, by rw [Nat.zero_add]; exact c4, c5, argsV_ownT c6 c5, own_capT c6⟩
theorem RowT.far {w : World} {lo g n k : Nat} {l : List InstT} (h : RowT w lo g n k l) {b : Nat} (hb : b < g) (i : Nat) (v : Value) : RowT (w.setCell ⟨b, i, none⟩ v) lo g n k l := by
  obtain ⟨⟨cs, h1, h2⟩, h0, h3⟩ := h
  have hx : (w.setCell ⟨b, i, none⟩ v).heap[g]? = w.heap[g]? := Below.heap_setCell _ _ _ _ (by simp; omega)
  have hc : ∀ j, (w.setCell ⟨b, i, none⟩ v).cell? ⟨g, j, none⟩ = w.cell? ⟨g, j, none⟩ := fun j => by simp only [World.cell?, hx]
  refine ⟨⟨cs, by rw [hx]; exact h1, h2⟩, h0, fun j hj => ?_⟩
  obtain ⟨aj, cj, nj, c1, c2, c3, c4, c5, c6⟩ := h3 j hj
  exact ⟨aj, cj, nj, by rw [hc]; exact c1, by rw [hc]; exact c2, by rw [hc]; exact c3, by rw [hc]; exact c4, c5, ownsRow_setCell_below c6 (by simp; omega) _⟩
end Go.Proofs.YteafjokpkljfcaaGreat

/-
  A row of instructions that grows, each with arguments elsewhere.
-/
namespace Go.Proofs.YteafjokpkljfcaaGreat
open Go.RowKit
set_option linter.unusedVariables false
set_option linter.unusedSimpArgs false

theorem ArgsV.grownW {w w' : World} {a : Option Addr} {l : List ArgT} {row : Option Nat} (h : ArgsV w a l) (hg : w.grownBy w' row) (hne : ∀ b off, a = some ⟨b, off, none⟩ → row ≠ some b) : ArgsV w' a l := by
  intro j hj
  obtain ⟨b, off, e, h1, h2, h3, h4⟩ := h j hj
  have hb : w'.heap[b]? = w.heap[b]? := hg.block b h1 (fun e2 => hne b off e e2.symm)
  have hc : ∀ i, w'.cell? ⟨b, i, none⟩ = w.cell? ⟨b, i, none⟩ := fun i => by simp only [World.cell?, hb]
  exact ⟨b, off, e, Nat.lt_of_lt_of_le h1 hg.size, by rw [hc]; exact h2, by rw [hc]; exact h3, by rw [hc]; exact h4⟩
def cellsI (x : InstT) (a : Option Addr) (n c : Nat) : List Value := [.int .u16 x.1, .int .u32 x.2.1, .int .u32 x.2.2.1, .slice a n c]
/-- The instructions so far, in the row v from block lo on. -/
def EachW (w : World) (lo : Nat) (ob : Option Nat) (l : List InstT) (cs : List Value) : Prop :=
  cs.length = l.length * 4 ∧ ∀ j, j < l.length → ∃ aj cj nj, cs[j * 4]? = some (.int .u16 (nthI l j).1) ∧ cs[j * 4 + 1]? = some (.int .u32 (nthI l j).2.1) ∧ cs[j * 4 + 2]? = some (.int .u32 (nthI l j).2.2.1) ∧ cs[j * 4 + 3]? = some (.slice aj nj cj) ∧ (nthI l j).2.2.2.length = nj ∧ ArgsV w aj (nthI l j).2.2.2 ∧ nj ≤ cj ∧ ∀ b off, aj = some ⟨b, off, none⟩ → lo ≤ b ∧ b < w.heap.size ∧ ob ≠ some b
theorem eachW_nil (w : World) (lo : Nat) (ob : Option Nat) : EachW w lo ob [] [] := ⟨rfl, fun j hj => by simp at hj⟩
theorem EachW.below {w w' : World} {lo : Nat} {ob : Option Nat} {l : List InstT} {cs : List Value} (h : EachW w lo ob l cs) (hb : Below w.heap.size w w') : EachW w' lo ob l cs := by
  refine ⟨h.1, fun j hj => ?_⟩
  obtain ⟨aj, cj, nj, c0, c1, c2, c3, c4, c5, c6, c7⟩ := h.2 j hj
  exact ⟨aj, cj, nj, c0, c1, c2, c3, c4, c5.below hb, c6, fun b off e => ⟨(c7 b off e).1, Nat.lt_of_lt_of_le (c7 b off e).2.1 hb.size, (c7 b off e).2.2⟩⟩
theorem EachW.set {w : World} {lo : Nat} {ob : Option Nat} {l : List InstT} {cs : List Value} (h : EachW w lo ob l cs) {b : Nat} (hb : b < lo) (i : Nat) (u : Value) : EachW (w.setCell ⟨b, i, none⟩ u) lo ob l cs := by
  refine ⟨h.1, fun j hj => ?_⟩
  obtain ⟨aj, cj, nj, c0, c1, c2, c3, c4, c5, c6, c7⟩ := h.2 j hj
  exact ⟨aj, cj, nj, c0, c1, c2, c3, c4, c5.setCell (fun b' off' e h2 => by have := (c7 b' off' e).1; omega) u, c6, fun b' off' e => ⟨(c7 b' off' e).1, by rw [World.size_setCell]; exact (c7 b' off' e).2.1, (c7 b' off' e).2.2⟩⟩
theorem nthI_snocW (l : List InstT) (x : InstT) (j : Nat) (hj : j < l.length) : nthI (l ++ [x]) j = nthI l j := by simp [nthI, List.getD, List.getElem?_append_left hj]
theorem nthI_lastW (l : List InstT) (x : InstT) : nthI (l ++ [x]) l.length = x := by simp [nthI, List.getD]
theorem EachW.push {w w' : World} {lo : Nat} {ob : Option Nat} {g' : Nat} {l : List InstT} {cs : List Value} {x : InstT} {a : Option Addr} {n c : Nat} (h : EachW w lo ob l cs) (hv : ∀ b, ob = some b → b < w.heap.size) (ha : ArgsV w a x.2.2.2) (hl : x.2.2.2.length = n) (hc : n ≤ c) (hb : ∀ b off, a = some ⟨b, off, none⟩ → lo ≤ b ∧ b < w.heap.size ∧ ob ≠ some b)
    (hg : w.grownBy w' ob) (hat : ob = some g' ∨ g' = w.heap.size) : EachW w' lo (some g') (l ++ [x]) (cs ++ cellsI x a n c) := by
  obtain ⟨h1, h2⟩ := h
  have far : ∀ b, b < w.heap.size → ob ≠ some b → some g' ≠ some b := fun b hb1 hb2 e => by
    cases e
    rcases hat with h | h
    · exact hb2 h
    · omega
  refine ⟨by simp [cellsI, h1]; omega, fun j hj => ?_⟩
  rw [List.length_append, List.length_singleton] at hj
  by_cases hjl : j < l.length
  · rw [nthI_snocW l x j hjl]
    obtain ⟨aj, cj, nj, c0, c1, c2, c3, c4, c5, c6, c7⟩ := h2 j hjl
    have e : ∀ i, i < cs.length → (cs ++ cellsI x a n c)[i]? = cs[i]? := fun i hi => List.getElem?_append_left hi
    refine ⟨aj, cj, nj, by rw [e _ (by omega)]; exact c0, by rw [e _ (by omega)]; exact c1, by rw [e _ (by omega)]; exact c2, by rw [e _ (by omega)]; exact c3, c4, c5.grownW hg (fun b off e => (c7 b off e).2.2), c6, fun b off e => ⟨(c7 b off e).1, Nat.lt_of_lt_of_le (c7 b off e).2.1 hg.size, far b (c7 b off e).2.1 (c7 b off e).2.2⟩⟩
  · obtain rfl : j = l.length := by omega
    rw [nthI_lastW]
    have e : ∀ i, (cs ++ cellsI x a n c)[l.length * 4 + i]? = (cellsI x a n c)[i]? := fun i => by
      rw [List.getElem?_append_right (by omega)]; congr 1; omega
    refine ⟨a, c, n, by have h0 := e 0; rw [Nat.add_zero] at h0; rw [h0]; rfl, by rw [e 1]; rfl, by rw [e 2]; rfl, by rw [e 3]; rfl, hl, ha.grownW hg (fun b off e => (hb b off e).2.2), hc, fun b off e => ⟨(hb b off e).1, Nat.lt_of_lt_of_le (hb b off e).2.1 hg.size, far b (hb b off e).2.1 (hb b off e).2.2⟩⟩
theorem EachW.view {w : World} {lo lo' T n c : Nat} {a : Option Addr} {l : List InstT} {cs : List Value} (h : EachW w lo' (Value.ownBlock (.slice a n c)) l cs) (ho : w.ownsRow lo T 4 (.slice a n c) n cs) (hl : l.length = n) : InstsV w a l := by
  intro j hj
  obtain ⟨aj, cj, nj, c0, c1, c2, c3, c4, c5, c6, c7⟩ := h.2 j hj
  rcases ho.2 with ⟨_, h0⟩ | ⟨g, cap', cur, hv, _, hg, _⟩
  · omega
  · cases hv
    have hl4 := h.1
    have e := fun i (hi : i < n * 4) => ho.cellAt i hi
    refine ⟨g, 0, aj, cj, nj, rfl, (Array.getElem?_eq_some_iff.1 hg).1, ?_, ?_, ?_, ?_, c4, c5, c6⟩
    · rw [Nat.zero_add, e _ (by omega)]; exact c0
    · rw [Nat.zero_add, e _ (by omega)]; exact c1
    · rw [Nat.zero_add, e _ (by omega)]; exact c2
    · rw [Nat.zero_add, e _ (by omega)]; exact c3
end Go.Proofs.YteafjokpkljfcaaGreat

/-
  A frame as its slots: any frame of so many slots is the list of them.
-/
namespace Go.Proofs.YteafjokpkljfcaaGreat
open Go

theorem hide {p : Prop} (h : p) : Go.RowKit.Hid p := h
/-- What a slot holds. -/
def slot (t : Array Value) (i : Nat) : Value := t.getD i undef
/-- What holds where a piece of code goes on. -/
def onNormal (K : Act → World → Prop) : Exit → Act → World → Prop
  | .normal, a, w => K a w
  | _, _, _ => False
theorem onNormal_normal (K : Act → World → Prop) (a : Act) (w : World) : onNormal K .normal a w = K a w := rfl
theorem wp_norm {P : Program} {c : Code} {Q : Exit → Act → World → Prop} {a : Act} {w : World} (h : c.wp P (onNormal (Q .normal)) a w) : c.wp P Q a w :=
  wp_mono h fun e a w h => by
    cases e with
    | normal => exact h
    | _ => exact False.elim h

end Go.Proofs.YteafjokpkljfcaaGreat
