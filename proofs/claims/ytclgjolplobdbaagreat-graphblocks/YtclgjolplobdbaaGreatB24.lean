/-
  Texts laid together in one: MathBl, Law14Number, KitCopyInst, KitCopyModule.
-/
import Derived.WalkSpells
import Derived.Test.YtclgjolplobdbaaGreatB23
import Derived.Test.YtclgjolplobdbaaGreatB04
import Derived.WalkMore
import Derived.OwnWalk
import Derived.Test.YtclgjolplobdbaaGreatProg
import Derived.Test.YtclgjolplobdbaaGreatB01
import Derived.Test.YtclgjolplobdbaaGreatB11
import Derived.BigRegion
import Derived.Deep.RegionWith
import Derived.Deep.DrawnRows
import Derived.Deep.QuietTactic
import Derived.BigQuiet
import Derived.Test.YtclgjolplobdbaaGreatB15
import Derived.Test.YtclgjolplobdbaaGreatB06
import Derived.Test.YtclgjolplobdbaaGreatB10
/-
  A function's nodes are its blocks, their edges its targets: in plain mathematics.
-/
namespace Go.Proofs.YtclgjolplobdbaaGreat
open Go.RowKit
set_option linter.unusedVariables false
set_option linter.unusedSimpArgs false
set_option maxRecDepth 10000

theorem mem_onLast {fs : List FuncT} {g : FuncT → FuncT} {f : FuncT} (h : f ∈ onLast fs g) : f ∈ fs ∨ ∃ f0 ∈ fs, f = g f0 := by
  unfold onLast at h
  split at h
  · cases h
  · next f1 e =>
    have h1 : f1 ∈ fs := List.mem_of_getLast? e
    rcases List.mem_append.1 h with h | h
    · exact .inl (List.dropLast_subset _ h)
    · exact .inr ⟨f1, h1, by simpa using h⟩
theorem mem_endLast {bs : List (Int × Int × Int)} {k : Int} {b : Int × Int × Int} (h : b ∈ endLast bs k) : ∃ b0 ∈ bs, b.1 = b0.1 ∧ b.2.1 = b0.2.1 := by
  unfold endLast at h
  split at h
  · cases h
  · next b1 e =>
    have h1 : b1 ∈ bs := List.mem_of_getLast? e
    rcases List.mem_append.1 h with h | h
    · exact ⟨b, List.dropLast_subset _ h, rfl, rfl⟩
    · refine ⟨b1, h1, ?_⟩
      have h2 : b = (b1.1, b1.2.1, k) := by simpa using h
      rw [h2]; exact ⟨rfl, rfl⟩
/-- A block begins at a label. -/
theorem blk_begin (l : List InstT) : ∀ (k : Nat) (f : FuncT), f ∈ cutTo l k → ∀ b ∈ f.2.2.2.1, ∃ q : Nat, q < k ∧ b.2.1 = (q : Int) ∧ (nthI l q).1 = 248 ∧ (nthI l q).2.2.1 = b.1
  | 0, f, h, b, hb => by cases h
  | k + 1, f, h, b, hb => by
    have old : ∀ f0 ∈ cutTo l k, ∀ b0 ∈ f0.2.2.2.1, ∃ q : Nat, q < k + 1 ∧ b0.2.1 = (q : Int) ∧ (nthI l q).1 = 248 ∧ (nthI l q).2.2.1 = b0.1 := fun f0 h0 b0 hb0 => by
      obtain ⟨q, h1, h2⟩ := blk_begin l k f0 h0 b0 hb0
      exact ⟨q, by omega, h2⟩
    rw [cutTo] at h
    unfold stepC at h
    split at h
    · rcases List.mem_append.1 h with h | h
      · exact old f h b hb
      · simp at h; subst h; cases hb
    · split at h
      · rcases mem_onLast h with h | ⟨f0, h0, rfl⟩
        · exact old f h b hb
        · exact old f0 h0 b hb
      · split at h
        · rcases mem_onLast h with h | ⟨f0, h0, rfl⟩
          · exact old f h b hb
          · exact old f0 h0 b hb
        · split at h
          · next h248 =>
            rcases mem_onLast h with h | ⟨f0, h0, rfl⟩
            · exact old f h b hb
            · unfold withBlock at hb
              rcases List.mem_append.1 hb with hb | hb
              · exact old f0 h0 b hb
              · simp at hb; subst hb
                exact ⟨k, by omega, rfl, h248, rfl⟩
          · split at h
            · rcases mem_onLast h with h | ⟨f0, h0, rfl⟩
              · exact old f h b hb
              · unfold withTo at hb
                obtain ⟨b0, hb0, e1, e2⟩ := mem_endLast hb
                obtain ⟨q, h1, h2, h3, h4⟩ := old f0 h0 b0 hb0
                exact ⟨q, h1, by rw [e2]; exact h2, h3, by rw [e1]; exact h4⟩
            · exact old f h b hb
theorem res248 : (lookF refT 248).1.2.2.1 = true := by kernel_rfl
theorem rawE_res {x : InstT} {b : Int} (h : rawE x b = 0) (h248 : x.1 = 248) : x.2.2.1 ≠ 0 := by
  intro e
  unfold rawE at h
  split at h
  · unfold faultI at h
    split at h
    · next h1 => exact absurd h h1
    · split at h
      · next h1 => exact absurd h h1
      · next h1 =>
        rw [h248, res248, e] at h1
        simp [idE] at h1
  · cases h
theorem blkC_lt {l : List InstT} : ∀ {bs : List (Int × Int × Int)} {s e : Nat}, blkC l s bs e → ∀ i j, i < j → j < bs.length → (nthB bs i).2.1 < (nthB bs j).2.1
  | [], s, e, h, i, j, hij, hj => absurd hj (Nat.not_lt_zero j)
  | b :: bs, s, e, h, 0, 0, hij, hj => absurd hij (Nat.lt_irrefl 0)
  | b :: bs, s, e, h, 0, j + 1, hij, hj => by
    obtain ⟨h1, _, t, _, h4, _, h6⟩ := h
    obtain ⟨q, u, a1, a2, _⟩ := blkC_at h6 j (by simp at hj; omega)
    have e1 : nthB (b :: bs) (j + 1) = nthB bs j := by simp [nthB]
    have e2 : nthB (b :: bs) 0 = b := by simp [nthB]
    rw [e1, e2, a1, h1]
    show (s : Int) < (q : Int)
    omega
  | b :: bs, s, e, h, i + 1, 0, hij, hj => absurd hij (by omega)
  | b :: bs, s, e, h, i + 1, j + 1, hij, hj => by
    obtain ⟨_, _, t, _, _, _, h6⟩ := h
    have := blkC_lt h6 i j (by omega) (by simp at hj; omega)
    simpa [nthB] using this
/-- Blocks have labels of their own. -/
theorem lab_once {b : Int} {l : List InstT} {f : FuncT} (h : (idsE b l).1 = 0) (hf : f ∈ cutTo l l.length) : ∀ i j, i < j → j < f.2.2.2.1.length → (nthB f.2.2.2.1 i).1 ≠ (nthB f.2.2.2.1 j).1 := by
  obtain ⟨hlay, _, hno⟩ := ids_sound h
  obtain ⟨_, _, _, _, _, _, _, hbl, _⟩ := fnC_mem (whole_cut hlay) f hf
  have hmem : ∀ i, i < f.2.2.2.1.length → nthB f.2.2.2.1 i ∈ f.2.2.2.1 := fun i hi => by simp [nthB, List.getD, hi]
  intro i j hij hj e
  obtain ⟨p, hp, p1, p2, p3⟩ := blk_begin l l.length f hf _ (hmem i (by omega))
  obtain ⟨q, hq, q1, q2, q3⟩ := blk_begin l l.length f hf _ (hmem j hj)
  have hlt := blkC_lt hbl i j hij hj
  rw [p1, q1] at hlt
  have hr : (nthI l q).2.2.1 ≠ 0 := rawE_res (shape_each (layE_ok hlay).2.1 q hq) q2
  have hpq : (nthI l p).2.2.1 = (nthI l q).2.2.1 := by rw [p3, q3, e]
  have hfr := fresh_at (hno q hq)
  have hm : (makT l (p + 1) (nthI l q).2.2.1).isSome = true := by
    rw [makT]
    split
    · next h => exact h
    · rw [if_pos ⟨hpq, hr⟩]; rfl
  have hs := makT_stays l _ (p + 1) hm (q - (p + 1))
  rw [show p + 1 + (q - (p + 1)) = q by omega] at hs
  rw [hs, hm] at hfr
  cases hfr
theorem numT_at (bs : List (Int × Int × Int)) : ∀ (k : Nat) (y n : Int), numT bs k y = some n → ∃ j : Nat, j < k ∧ n = (j : Int) ∧ (nthB bs j).1 = y
  | 0, y, n, h => by cases h
  | k + 1, y, n, h => by
    have h : (if y = (nthB bs k).1 then some (k : Int) else numT bs k y) = some n := h
    split at h
    · next e => injection h with h; exact ⟨k, by omega, h.symm, e.symm⟩
    · obtain ⟨j, h1, h2⟩ := numT_at bs k y n h
      exact ⟨j, by omega, h2⟩
/-- The number of a label's block. -/
def NumB (bs : List (Int × Int × Int)) (y r : Int) : Prop := (r = -1 ∧ ∀ i, i < bs.length → ¬ (nthB bs i).1 = y) ∨ ∃ j : Nat, j < bs.length ∧ r = (j : Int) ∧ (nthB bs j).1 = y ∧ ∀ i, i < j → ¬ (nthB bs i).1 = y
theorem numB_num {bs : List (Int × Int × Int)} {y r : Int} (ho : ∀ i j, i < j → j < bs.length → (nthB bs i).1 ≠ (nthB bs j).1) (h : NumB bs y r) (h0 : ¬ numG (numT bs bs.length) y = 0) : r = numG (numT bs bs.length) y := by
  unfold numG at h0 ⊢
  cases e : numT bs bs.length y with
  | none => rw [e] at h0; exact absurd rfl h0
  | some n =>
    obtain ⟨j, hj, rfl, hy⟩ := numT_at bs _ y n e
    rcases h with ⟨_, h⟩ | ⟨i, hi, rfl, hy2, _⟩
    · exact absurd hy (h j hj)
    · have : i = j := by
        rcases Nat.lt_trichotomy i j with h | h | h
        · exact absurd (hy2.trans hy.symm) (ho i j h hj)
        · exact h
        · exact absurd (hy.trans hy2.symm) (ho j i h hi)
      rw [this]; rfl

theorem rowN_mapB {F : Int × Int × Int → List Int} (bs : List (Int × Int × Int)) (k : Nat) (hk : k < bs.length) : rowN ((bs.map F).map onceF) k = onceF (F (nthB bs k)) := by
  simp [rowN, nthB, List.getD, hk]
/-- What the law asks of a function's graph. -/
structure BlkOk (l : List InstT) (f : FuncT) : Prop where
  len : ((newN l f).map onceF).length = f.2.2.2.1.length
  lenM : (newM l f).length = f.2.2.2.1.length
  none0 : aheadL ((newN l f).map onceF) 0 = []
  edge : ∀ (k : Nat), k < f.2.2.2.1.length → ∀ y ∈ tgL (nthI l ((nthB f.2.2.2.1 k).2.2.toNat - 1)), ∀ r, NumB f.2.2.2.1 y r → r ∈ nextL ((newN l f).map onceF) (k : Int)
  few : ∀ (k : Nat), k < f.2.2.2.1.length → (nextL ((newN l f).map onceF) (k : Int)).length ≤ (tgL (nthI l ((nthB f.2.2.2.1 k).2.2.toNat - 1))).length
  merge : ∀ (k : Nat), k < f.2.2.2.1.length → ∃ q t c : Int, (newM l f).getD k (0, 0, 0) = (q, t, c) ∧ ¬ t = 0 ∧ ¬ c = 0 ∧ (q = 0 ↔ t < 0) ∧ (q = 2 ↔ 0 ≤ c)
theorem ldM_ok {F : Int → Option Int} {l : List InstT} {b : Int × Int × Int} (h : okM F l b) (hp : ∀ y, ¬ numG F y = 0 → 0 < numG F y) : ∃ q t c : Int, ldM F l b = (q, t, c) ∧ ¬ t = 0 ∧ ¬ c = 0 ∧ (q = 0 ↔ t < 0) ∧ (q = 2 ↔ 0 ≤ c) := by
  refine ⟨_, _, _, rfl, ?_⟩
  unfold okM at h
  have hr : ∃ o p a, ldR l b = mgOf o p a := ⟨_, _, _, rfl⟩
  obtain ⟨o, p, a, e⟩ := hr
  rw [e] at h ⊢
  unfold mgOf at h ⊢
  split
  · next h1 =>
    rw [if_pos h1] at h
    have h2 := hp _ (h (nthA a 0).2.1 (by simp))
    have h3 := hp _ (h (nthA a 1).2.1 (by simp))
    simp [nth]
    omega
  · next h1 =>
    rw [if_neg h1] at h
    split
    · next h2 =>
      rw [if_pos h2] at h
      split
      · next h3 =>
        rw [if_pos h3] at h
        have h4 := hp _ (h (nthA a 0).2.1 (by simp))
        simp [nth]
        omega
      · next h3 =>
        rw [if_neg h3] at h
        have h4 := hp _ (h (nthA a 0).2.1 (by simp))
        simp [nth]
        omega
    · simp [nth]
theorem blk_ok {b : Int} {l : List InstT} {f : FuncT} (h : (idsE b l).1 = 0) (hf : f ∈ cutTo l l.length) (hE : (newE b l f).1 = 0) : BlkOk l f := by
  have hz : ldE (numT f.2.2.2.1 f.2.2.2.1.length) l f.2.2.2.1 = newE b l f ∧ f.2.2.2.1.length ≤ 4096 := by
    unfold newE at hE ⊢
    rw [if_neg (by simpa using h), if_neg (by simpa using hf)] at hE ⊢
    split at hE
    · cases hE
    · next h4 => rw [if_neg h4]; exact ⟨rfl, by omega⟩
  have hall := ldE_zero (by rw [hz.1]; exact hE)
  have hed := lead_edges hall
  have ho := lab_once h hf
  have hmem : ∀ i, i < f.2.2.2.1.length → nthB f.2.2.2.1 i ∈ f.2.2.2.1 := fun i hi => by simp [nthB, List.getD, hi]
  have hlen : ((newN l f).map onceF).length = f.2.2.2.1.length := by simp [newN]
  have hnext : ∀ k : Nat, k < f.2.2.2.1.length → nextL ((newN l f).map onceF) (k : Int) = onceF (ldN (numT f.2.2.2.1 f.2.2.2.1.length) l (nthB f.2.2.2.1 k)) := fun k hk => by
    unfold nextL
    rw [if_pos (by rw [hlen]; unfold nodeB; simp; omega)]
    exact rowN_mapB _ k hk
  refine ⟨hlen, by simp [newM], ?_, ?_, ?_, ?_⟩
  · unfold aheadL
    split
    · apply List.eq_nil_iff_forall_not_mem.2
      intro x hx
      obtain ⟨i, hi, hi2, _⟩ := (aheadT_mem _ _ _ _).1 hx
      rw [hlen] at hi
      rw [show rowN ((newN l f).map onceF) i = onceF (ldN (numT f.2.2.2.1 f.2.2.2.1.length) l (nthB f.2.2.2.1 i)) from rowN_mapB _ i hi] at hi2
      have h1 := (once_mem _ _).1 hi2
      have h2 := hed i 0 (by rw [show rowN (f.2.2.2.1.map (ldN (numT f.2.2.2.1 f.2.2.2.1.length) l)) i = ldN (numT f.2.2.2.1 f.2.2.2.1.length) l (nthB f.2.2.2.1 i) by simp [rowN, nthB, List.getD, hi]]; exact h1)
      omega
    · rfl
  · intro k hk y hy r hr
    rw [hnext k hk, once_mem]
    have h1 := (hall _ (hmem k hk)).2 y hy
    rw [numB_num ho hr h1]
    exact List.mem_map.2 ⟨y, hy, rfl⟩
  · intro k hk
    rw [hnext k hk]
    refine Nat.le_trans (once_len _) ?_
    unfold ldN; rw [List.length_map]
    exact Nat.le_refl _
  · intro k hk
    obtain ⟨q, t, c, e, h1⟩ := ldM_ok (hall _ (hmem k hk)).1 (fun y hy => (numG_range hy).1)
    refine ⟨q, t, c, ?_, h1⟩
    rw [← e]
    simp [newM, nthB, List.getD, hk]

end Go.Proofs.YtclgjolplobdbaaGreat

/-
  number of the law: the number of a label's block.
-/
namespace Go.Proofs.YtclgjolplobdbaaGreat
open Go.RowKit
set_option linter.unusedVariables false
set_option linter.unusedSimpArgs false
set_option maxRecDepth 10000

set_option maxHeartbeats 4000000 in
theorem number_any (fv : Value) (f : FuncT) (y : Int) (w : World) (hf : FnR w fv f) :
    Calls Tryz.prog 17 #[fv, .int .u32 y] w fun e w' => (∃ r, e = .returned (.int .i64 r) ∧ NumB f.2.2.2.1 y r) ∧ Below w.heap.size w w' := by
  obtain ⟨xp, cp, xq, cq, rfl, hf1, hf2⟩ := hf.form
  obtain ⟨_, hfew⟩ := hf.few
  obtain ⟨fi, fa, fp, fb, fe⟩ := f
  simp only at *
  have hba : Below w.heap.size w (w.alloc (.cells #[.int .u32 fi, .int .i64 fa, .slice xp fp.length cp, .slice xq fb.length cq, .int .i64 fe] 29)) := (Below.refl _ w).alloc (Nat.le_refl _) _
  have hk := allocNew w (.cells #[.int .u32 fi, .int .i64 fa, .slice xp fp.length cp, .slice xq fb.length cq, .int .i64 fe] 29) rfl
  have c3 := (fiveCells hk).2.2.2.1
  have HBA := hide hba
  have HQ := hide (hf2.below hba)
  have HFW := hide hfew
  clear hf hf1 hf2 hba hk hfew
  generalize hnb : fb.length = nb at *
  have HNB := hide hnb
  clear hnb
  go_enter Tryz.func17, Tryz.ntmps17
  go_wp2_with fail
  generalize World.alloc w _ = W at *
  go_loopw [5] (fun i wr => ∃ k : Nat, k ≤ nb ∧ i = .int .i64 k ∧ (∀ j, j < k → ¬ (nthB fb j).1 = y) ∧ wr = W) (fun i _ => nb - (intOf i).toNat)
  case atStart => exact ⟨0, Nat.zero_le _, rfl, fun j h => absurd h (Nat.not_lt_zero j), rfl⟩
  case round =>
    obtain ⟨k, hk, rfl, hno, rfl⟩ := hrel
    have HNO := hide hno
    by_cases hlt : k < nb
    · have hkl : k < fb.length := by rw [HNB.out]; exact hlt
      obtain ⟨G, o, rfl, hG, p1, _, _⟩ := HQ.out k hkl
      have hki : (k : Int) < (nb : Int) := by omega
      have hk0 : (0 : Int) ≤ (k : Int) := by omega
      have HKL := hide hkl
      have HLT := hide hlt
      generalize hy : (nthB fb k).1 = z at *
      have HY := hide hy
      clear hy hno hG hkl hk
      by_cases hz : z = y
      · have hzb : (z == y) = true := by simpa using hz
        have HZ := hide hz
        clear hz
        go_wp2_with fail
        go_ret
        exact ⟨⟨_, rfl, .inr ⟨k, HKL.out, rfl, HY.out.trans HZ.out, HNO.out⟩⟩, HBA.out⟩
      · have hzb : (z == y) = false := by simpa using hz
        have HZ := hide hz
        have hw := wrapJ hlt HFW.out
        clear hz hlt
        go_wp2_with fail
        refine ⟨⟨k + 1, HLT.out, by rw [hw]; simp, fun j hj => ?_, by first | trivial | rfl⟩, by rw [hw]; exact measZ2 HLT.out⟩
        by_cases e : j = k
        · subst e; rw [HY.out]; exact HZ.out
        · exact HNO.out j (by omega)
    · have e : k = nb := by omega
      subst e
      clear hno hlt hk
      go_wp2_with fail
      go_ret
      exact ⟨⟨_, rfl, .inl ⟨rfl, fun i hi => HNO.out i (by rw [HNB.out] at hi; exact hi)⟩⟩, HBA.out⟩

end Go.Proofs.YtclgjolplobdbaaGreat

/-
  CopyInst of the kit answers the instruction in new memory.
-/
namespace Go.Proofs.YtclgjolplobdbaaGreat
open Go.RowKit

theorem CopyInst.info : (Tryz.prog.info? 110).map (fun i => (i.zero, i.size, i.bytes)) = some (some (.agg #[.int .u8 0, .int .u32 0, .string ⟨#[]⟩]), 3, 24) := by kernel_rfl

/-- The first k arguments lie in the row at g. -/
structure PartA (w : World) (g n k : Nat) (l : List ArgT) : Prop where
  row : ∃ cs : Array Value, w.heap[g]? = some (.cells cs 110 (0, 0)) ∧ cs.size = n * 3
  each : ∀ j, j < k → w.cell? ⟨g, j * 3, none⟩ = some (.int .u8 (nthA l j).1) ∧ w.cell? ⟨g, j * 3 + 1, none⟩ = some (.int .u32 (nthA l j).2.1) ∧ w.cell? ⟨g, j * 3 + 2, none⟩ = some (.string (nthA l j).2.2)

theorem cells_can {w : World} {g T : Nat} {cs : Array Value} (h : w.heap[g]? = some (.cells cs T (0, 0))) (j : Nat) (hj : j < cs.size) : (∃ v, w.cell? ⟨g, j, none⟩ = some v) ∧ w.frozen? ⟨g, j, none⟩ = false := by
  refine ⟨⟨cs[j], by simp [World.cell?, h, hj]⟩, by simp [World.frozen?, h]⟩

theorem PartA.store {w : World} {g n k : Nat} {l : List ArgT} (h : PartA w g n k l) (hk : k < n) :
    PartA (((w.setCell ⟨g, k * 3, none⟩ (.int .u8 (nthA l k).1)).setCell ⟨g, k * 3 + 1, none⟩ (.int .u32 (nthA l k).2.1)).setCell ⟨g, k * 3 + 2, none⟩ (.string (nthA l k).2.2)) g n (k + 1) l := by
  obtain ⟨⟨cs, h1, h2⟩, h3⟩ := h
  obtain ⟨W, hW⟩ : ∃ W, W = ((w.setCell ⟨g, k * 3, none⟩ (.int .u8 (nthA l k).1)).setCell ⟨g, k * 3 + 1, none⟩ (.int .u32 (nthA l k).2.1)).setCell ⟨g, k * 3 + 2, none⟩ (.string (nthA l k).2.2) := ⟨_, rfl⟩
  have hb : W.heap[g]? = some (.cells (((cs.setIfInBounds (k * 3) (.int .u8 (nthA l k).1)).setIfInBounds (k * 3 + 1) (.int .u32 (nthA l k).2.1)).setIfInBounds (k * 3 + 2) (.string (nthA l k).2.2)) 110 (0, 0)) := by
    rw [hW]; simp [World.setCell, Array.getElem?_modify, h1]
  have cell : ∀ j, W.cell? ⟨g, j, none⟩ = (((cs.setIfInBounds (k * 3) (.int .u8 (nthA l k).1)).setIfInBounds (k * 3 + 1) (.int .u32 (nthA l k).2.1)).setIfInBounds (k * 3 + 2) (.string (nthA l k).2.2))[j]? := fun j => by
    simp [World.cell?, hb]
  have old : ∀ j, w.cell? ⟨g, j, none⟩ = cs[j]? := fun j => by simp [World.cell?, h1]
  rw [← hW]
  refine ⟨⟨_, hb, by simp [h2]⟩, fun j hj => ?_⟩
  by_cases hjk : j < k
  · obtain ⟨c1, c2, c3⟩ := h3 j hjk
    rw [old] at c1 c2 c3
    refine ⟨?_, ?_, ?_⟩
    all_goals rw [cell, Array.getElem?_setIfInBounds_ne (by omega), Array.getElem?_setIfInBounds_ne (by omega), Array.getElem?_setIfInBounds_ne (by omega)]
    · exact c1
    · exact c2
    · exact c3
  · obtain rfl : j = k := by omega
    refine ⟨?_, ?_, ?_⟩
    · rw [cell, Array.getElem?_setIfInBounds_ne (by omega), Array.getElem?_setIfInBounds_ne (by omega), Array.getElem?_setIfInBounds_self_of_lt (by omega)]
    · rw [cell, Array.getElem?_setIfInBounds_ne (by omega), Array.getElem?_setIfInBounds_self_of_lt (by simp; omega)]
    · rw [cell, Array.getElem?_setIfInBounds_self_of_lt (by simp; omega)]

theorem PartA.view {w : World} {g n : Nat} {l : List ArgT} (h : PartA w g n n l) (hl : l.length = n) : ArgsV w (some ⟨g, 0, none⟩) l := by
  intro j hj
  obtain ⟨c1, c2, c3⟩ := h.each j (by omega)
  exact ⟨g, 0, rfl, World.block_lt_of_cell? _ _ c1, by rw [Nat.zero_add]; exact c1, by rw [Nat.zero_add]; exact c2, by rw [Nat.zero_add]; exact c3⟩

theorem setFar1 {w : World} {g k : Nat} {o : Obj} (h : w.heap[k]? = some o) (hne : k ≠ g) (i : Nat) (u : Value) : (w.setCell ⟨g, i, none⟩ u).heap[k]? = some o := (Below.heap_setCell _ _ _ _ (by simpa using hne)).trans h
theorem setFar3 {w : World} {g k : Nat} {o : Obj} (h : w.heap[k]? = some o) (hne : k ≠ g) (i j m : Nat) (u v x : Value) : (((w.setCell ⟨g, i, none⟩ u).setCell ⟨g, j, none⟩ v).setCell ⟨g, m, none⟩ x).heap[k]? = some o := setFar1 (setFar1 (setFar1 h hne i u) hne j v) hne m x
theorem block_cells {w : World} {B T : Nat} {cs : Array Value} (h : w.heap[B]? = some (.cells cs T (0, 0))) : (∀ i, w.cell? ⟨B, i, none⟩ = cs[i]?) ∧ (∀ i, w.frozen? ⟨B, i, none⟩ = false) := by
  refine ⟨fun i => ?_, fun i => ?_⟩
  · simp [World.cell?, h]
  · simp [World.frozen?, h]

theorem four_set {w : World} {B T : Nat} {z0 z1 z2 z3 : Value} (h : w.heap[B]? = some (.cells #[z0, z1, z2, z3] T (0, 0))) (u0 u1 u2 u3 : Value) :
    ((((w.setCell ⟨B, 0, none⟩ u0).setCell ⟨B, 1, none⟩ u1).setCell ⟨B, 2, none⟩ u2).setCell ⟨B, 3, none⟩ u3).heap[B]? = some (.cells #[u0, u1, u2, u3] T (0, 0)) := by
  simp only [World.setCell, Array.getElem?_modify, h]; simp
theorem four_below (w : World) (B : Nat) (u0 u1 u2 u3 : Value) : Below B w ((((w.setCell ⟨B, 0, none⟩ u0).setCell ⟨B, 1, none⟩ u1).setCell ⟨B, 2, none⟩ u2).setCell ⟨B, 3, none⟩ u3) :=
  ((((Below.refl B w).setCell (Nat.le_refl _) _).setCell (Nat.le_refl _) _).setCell (Nat.le_refl _) _).setCell (Nat.le_refl _) _
theorem args_far {w : World} {b off g : Nat} {l : List ArgT} (h : ArgsV w (some ⟨b, off, none⟩) l) (hg : g ≠ b) (i : Nat) (v : Value) : ArgsV (w.setCell ⟨g, i, none⟩ v) (some ⟨b, off, none⟩) l :=
  h.setCell (fun b' off' e => by cases e; exact fun h => hg h.symm) v

set_option maxRecDepth 100000 in
set_option maxHeartbeats 2000000 in
theorem copyInst_any (x : InstT) (ax : Option Addr) (n cx : Nat) (w : World) (hx : ArgsV w ax x.2.2.2) (hl : x.2.2.2.length = n) (hn : 24 * n ≤ 140737488351232) :
    Calls Tryz.prog 32 #[instV x ax n cx] w fun e w' => ∃ g, e = .returned (instV x (some ⟨g, 0, none⟩) n n) ∧ w.heap.size ≤ g ∧ ArgsV w' (some ⟨g, 0, none⟩) x.2.2.2 ∧ Below w.heap.size w w' := by
  obtain ⟨i0, hi, hz0, hz1, hz2⟩ := info_parts CopyInst.info
  obtain ⟨xo, xt, xr, xl⟩ := x
  unfold instV
  simp only at *
  have HL : Hid (xl.length = n) := hl
  clear hl
  go_enter Tryz.func32, Tryz.ntmps32
  go_wp2_with (at_make; refine wpList_make_full _ rfl _ _ 48 rfl (w.heap.size + 1) 110 i0 (.agg #[.int .u8 0, .int .u32 0, .string ⟨#[]⟩]) 3 Tryz.underlying48 hi hz0 hz1 _ _ _ _ n rfl rfl (by omega) (by omega) (by rw [hz2]; omega) (by unfold maxLen; omega) (by simp) ?_)
  intro w1 hown1 hgrow1
  have hb0 : Below w.heap.size w ((w.alloc (.cells #[.int .u16 xo, .int .u32 xt, .int .u32 xr, .slice ax n cx] 50)).alloc (.cells #[.int .u16 0, .int .u32 0, .int .u32 0, .slice none 0 0] 50)) := ((Below.refl _ w).alloc (Nat.le_refl _) _).alloc (by simp) _
  have hb1 : Below (w.heap.size + 2) ((w.alloc (.cells #[.int .u16 xo, .int .u32 xt, .int .u32 xr, .slice ax n cx] 50)).alloc (.cells #[.int .u16 0, .int .u32 0, .int .u32 0, .slice none 0 0] 50)) w1 := (Below.refl _ _).grown hgrow1 (by simp) (by simp)
  have hbox : w1.heap[w.heap.size]? = some (.cells #[.int .u16 xo, .int .u32 xt, .int .u32 xr, .slice ax n cx] 50 (0, 0)) := (hb1.block w.heap.size (by omega)).trans ((Below.heap_alloc _ _ _ (by simp)).trans (heap_alloc_new w _))
  have hres : w1.heap[w.heap.size + 1]? = some (.cells #[.int .u16 0, .int .u32 0, .int .u32 0, .slice none 0 0] 50 (0, 0)) := (hb1.block (w.heap.size + 1) (by omega)).trans (by simpa using heap_alloc_new (w.alloc (.cells #[.int .u16 xo, .int .u32 xt, .int .u32 xr, .slice ax n cx] 50)) (.cells #[.int .u16 0, .int .u32 0, .int .u32 0, .slice none 0 0] 50))
  have hP1 : PartA w1 (w.heap.size + 2) n 0 xl := by
    refine ⟨?_, fun j hj => by omega⟩
    rcases hown1.2 with ⟨h, _⟩ | ⟨g, cap', cur, h1, h2, h3, h4, h5, h6, _⟩
    · simp at h
    · simp at h1; obtain ⟨rfl, rfl⟩ := h1; exact ⟨cur, h3, h6⟩
  have hbw1 : Below w.heap.size w w1 := hb0.trans (hb1.mono (by omega))
  clear hown1 hgrow1 hb0 hb1
  go_wp2
  go_loopw [4] (fun i wr => ∃ k : Nat, k ≤ n ∧ i = .int .i64 k ∧ PartA wr (w.heap.size + 2) n k xl ∧ wr.heap[w.heap.size]? = some (.cells #[.int .u16 xo, .int .u32 xt, .int .u32 xr, .slice ax n cx] 50 (0, 0)) ∧ wr.heap[w.heap.size + 1]? = some (.cells #[.int .u16 0, .int .u32 0, .int .u32 0, .slice none 0 0] 50 (0, 0)) ∧ Below w.heap.size w wr) (fun i _ => n - (intOf i).toNat)
  case atStart => exact ⟨0, Nat.zero_le _, rfl, hP1, hbox, hres, hbw1⟩
  case round =>
    obtain ⟨k, hk, rfl, hP, hbx, hrs, hnx⟩ := hrel
    clear hP1 hbw1 hbox hres
    have hbc : wr.cell? ⟨w.heap.size, 3, none⟩ = some (.slice ax n cx) := by simp [World.cell?, hbx]
    have hsz := hnx.size
    by_cases hlt : k < n
    · obtain ⟨b, off, rfl, hbs, p1, p2, p3⟩ := hx k (by rw [HL.out]; exact hlt)
      have q1 := (hnx.cell (p := ⟨b, off + k * 3, none⟩) hbs).trans p1
      have q2 := (hnx.cell (p := ⟨b, off + k * 3 + 1, none⟩) hbs).trans p2
      have q3 := (hnx.cell (p := ⟨b, off + k * 3 + 2, none⟩) hbs).trans p3
      obtain ⟨cs, hr1, hr2⟩ := hP.row
      obtain ⟨⟨u0, d0⟩, f0⟩ := cells_can hr1 (k * 3) (by omega)
      obtain ⟨⟨u1, d1⟩, f1⟩ := cells_can hr1 (k * 3 + 1) (by omega)
      obtain ⟨⟨u2, d2⟩, f2⟩ := cells_can hr1 (k * 3 + 2) (by omega)
      have hki : (k : Int) < (n : Int) := by omega
      have hk0 : (0 : Int) ≤ (k : Int) := by omega
      have hP2 := hP.store hlt
      have HX : Hid (wr.heap[w.heap.size]? = some (.cells #[.int .u16 xo, .int .u32 xt, .int .u32 xr, .slice (some ⟨b, off, none⟩) n cx] 50 (0, 0))) := hbx
      have HP2 : Hid _ := hP2
      have HR : Hid _ := hrs
      clear hP2 hP hr1 hr2 p1 p2 p3 hx hbx hrs
      go_wp2
      go_roundw
      case rel => exact ⟨k + 1, by omega, by go_num, HP2.out, setFar3 HX.out (by omega) _ _ _ _ _ _, setFar3 HR.out (by omega) _ _ _ _ _ _, ((hnx.setCell (by show w.heap.size ≤ w.heap.size + 1 + 1; omega) _).setCell (by show w.heap.size ≤ w.heap.size + 1 + 1; omega) _).setCell (by show w.heap.size ≤ w.heap.size + 1 + 1; omega) _⟩
      case measure => simp [intOf]; omega
    · obtain rfl : k = n := by omega
      obtain ⟨hc, hf⟩ := block_cells hbx
      obtain ⟨hc', hf'⟩ := block_cells hrs
      have c0 := hc 0
      have c1 := hc 1
      have c2 := hc 2
      have r0 := hc' 0
      have r1 := hc' 1
      have r2 := hc' 2
      have r3 := hc' 3
      have hV := hP.view HL.out
      have HV : Hid _ := hV
      have HB : Hid _ := hnx
      have HX : Hid _ := hbx
      have HR : Hid _ := hrs
      clear hP hbx hrs hc hc' hx hV hnx
      go_wp2
      have hB4 := four_set (setFar1 HR.out (show w.heap.size + 1 ≠ w.heap.size by omega) 3 (.slice (some ⟨w.heap.size + 1 + 1, 0, none⟩) k k)) (.int .u16 xo) (.int .u32 xt) (.int .u32 xr) (.slice (some ⟨w.heap.size + 1 + 1, 0, none⟩) k k)
      have hBel := (HB.out.setCell (p := ⟨w.heap.size, 3, none⟩) (Nat.le_refl _) (.slice (some ⟨w.heap.size + 1 + 1, 0, none⟩) k k)).trans ((four_below (wr.setCell ⟨w.heap.size, 3, none⟩ (.slice (some ⟨w.heap.size + 1 + 1, 0, none⟩) k k)) (w.heap.size + 1) (.int .u16 xo) (.int .u32 xt) (.int .u32 xr) (.slice (some ⟨w.heap.size + 1 + 1, 0, none⟩) k k)).mono (show w.heap.size ≤ w.heap.size + 1 by omega))
      have hV2 := args_far HV.out (show w.heap.size ≠ w.heap.size + 2 by omega) 3 (.slice (some ⟨w.heap.size + 1 + 1, 0, none⟩) k k)
      have hV3 := args_far (args_far (args_far (args_far hV2 (show w.heap.size + 1 ≠ w.heap.size + 2 by omega) 0 (.int .u16 xo)) (show w.heap.size + 1 ≠ w.heap.size + 2 by omega) 1 (.int .u32 xt)) (show w.heap.size + 1 ≠ w.heap.size + 2 by omega) 2 (.int .u32 xr)) (show w.heap.size + 1 ≠ w.heap.size + 2 by omega) 3 (.slice (some ⟨w.heap.size + 1 + 1, 0, none⟩) k k)
      clear hV2 HV HB HR HX c0 c1 c2 r0 r1 r2 r3 hf hf'
      generalize ((((wr.setCell _ _).setCell _ _).setCell _ _).setCell _ _).setCell _ _ = W at hB4 hBel hV3 ⊢
      obtain ⟨hd, _⟩ := block_cells hB4
      have d0 := hd 0
      have d1 := hd 1
      have d2 := hd 2
      have d3 := hd 3
      refine bodyPost_ret (v := .agg #[.int .u16 xo, .int .u32 xt, .int .u32 xr, .slice (some ⟨w.heap.size + 1 + 1, 0, none⟩) k k]) ?_ rfl ⟨w.heap.size + 1 + 1, rfl, by omega, hV3, hBel⟩
      simp [results, Tryz.results32, go_sem, d0, d1, d2, d3]

end Go.Proofs.YtclgjolplobdbaaGreat

/-
  CopyModule of the kit answers the module in new memory.
-/
namespace Go.Proofs.YtclgjolplobdbaaGreat
open Go.RowKit

theorem CopyModule.info : (Tryz.prog.info? 50).map (fun i => (i.zero, i.size, i.bytes)) = some (some (.agg #[.int .u16 0, .int .u32 0, .int .u32 0, .slice none 0 0]), 4, 40) := by kernel_rfl

/-- The first k instructions lie in the row at g, their arguments in later blocks. -/
structure PartI (w : World) (g n k : Nat) (l : List InstT) : Prop where
  row : ∃ cs : Array Value, w.heap[g]? = some (.cells cs 50 (0, 0)) ∧ cs.size = n * 4
  each : ∀ j, j < k → ∃ gj nj, w.cell? ⟨g, j * 4, none⟩ = some (.int .u16 (nthI l j).1) ∧ w.cell? ⟨g, j * 4 + 1, none⟩ = some (.int .u32 (nthI l j).2.1) ∧ w.cell? ⟨g, j * 4 + 2, none⟩ = some (.int .u32 (nthI l j).2.2.1) ∧ w.cell? ⟨g, j * 4 + 3, none⟩ = some (.slice (some ⟨gj, 0, none⟩) nj nj) ∧
    (nthI l j).2.2.2.length = nj ∧ ArgsV w (some ⟨gj, 0, none⟩) (nthI l j).2.2.2 ∧ g < gj

theorem PartI.below {w w' : World} {g n k : Nat} {l : List InstT} (h : PartI w g n k l) (hb : Below w.heap.size w w') : PartI w' g n k l := by
  obtain ⟨⟨cs, h1, h2⟩, h3⟩ := h
  have hg : g < w.heap.size := (Array.getElem?_eq_some_iff.1 h1).1
  refine ⟨⟨cs, by rw [hb.block g hg]; exact h1, h2⟩, fun j hj => ?_⟩
  obtain ⟨gj, nj, c1, c2, c3, c4, c5, c6, c7⟩ := h3 j hj
  exact ⟨gj, nj, (hb.cell (p := ⟨g, j * 4, none⟩) hg).trans c1, (hb.cell (p := ⟨g, j * 4 + 1, none⟩) hg).trans c2, (hb.cell (p := ⟨g, j * 4 + 2, none⟩) hg).trans c3, (hb.cell (p := ⟨g, j * 4 + 3, none⟩) hg).trans c4, c5, c6.below hb, c7⟩

/-- An instruction is stored. -/
theorem PartI.store {w : World} {g n k : Nat} {l : List InstT} (h : PartI w g n k l) (hk : k < n) (gk nk : Nat) (hl : (nthI l k).2.2.2.length = nk) (hv : ArgsV w (some ⟨gk, 0, none⟩) (nthI l k).2.2.2) (hg : g < gk) :
    PartI ((((w.setCell ⟨g, k * 4, none⟩ (.int .u16 (nthI l k).1)).setCell ⟨g, k * 4 + 1, none⟩ (.int .u32 (nthI l k).2.1)).setCell ⟨g, k * 4 + 2, none⟩ (.int .u32 (nthI l k).2.2.1)).setCell ⟨g, k * 4 + 3, none⟩ (.slice (some ⟨gk, 0, none⟩) nk nk)) g n (k + 1) l := by
  obtain ⟨⟨cs, h1, h2⟩, h3⟩ := h
  obtain ⟨W, hW⟩ : ∃ W, W = (((w.setCell ⟨g, k * 4, none⟩ (.int .u16 (nthI l k).1)).setCell ⟨g, k * 4 + 1, none⟩ (.int .u32 (nthI l k).2.1)).setCell ⟨g, k * 4 + 2, none⟩ (.int .u32 (nthI l k).2.2.1)).setCell ⟨g, k * 4 + 3, none⟩ (.slice (some ⟨gk, 0, none⟩) nk nk) := ⟨_, rfl⟩
  have hb : W.heap[g]? = some (.cells ((((cs.setIfInBounds (k * 4) (.int .u16 (nthI l k).1)).setIfInBounds (k * 4 + 1) (.int .u32 (nthI l k).2.1)).setIfInBounds (k * 4 + 2) (.int .u32 (nthI l k).2.2.1)).setIfInBounds (k * 4 + 3) (.slice (some ⟨gk, 0, none⟩) nk nk)) 50 (0, 0)) := by
    rw [hW]; simp [World.setCell, Array.getElem?_modify, h1]
  have cell : ∀ j, W.cell? ⟨g, j, none⟩ = ((((cs.setIfInBounds (k * 4) (.int .u16 (nthI l k).1)).setIfInBounds (k * 4 + 1) (.int .u32 (nthI l k).2.1)).setIfInBounds (k * 4 + 2) (.int .u32 (nthI l k).2.2.1)).setIfInBounds (k * 4 + 3) (.slice (some ⟨gk, 0, none⟩) nk nk))[j]? := fun j => by
    simp [World.cell?, hb]
  have old : ∀ j, w.cell? ⟨g, j, none⟩ = cs[j]? := fun j => by simp [World.cell?, h1]
  have far : ∀ gj m, g < gj → ArgsV w (some ⟨gj, 0, none⟩) m → ArgsV W (some ⟨gj, 0, none⟩) m := fun gj m hlt hm => by
    rw [hW]
    exact args_far (args_far (args_far (args_far hm (by omega) _ _) (by omega) _ _) (by omega) _ _) (by omega) _ _
  rw [← hW]
  refine ⟨⟨_, hb, by simp [h2]⟩, fun j hj => ?_⟩
  by_cases hjk : j < k
  · obtain ⟨gj, nj, c1, c2, c3, c4, c5, c6, c7⟩ := h3 j hjk
    rw [old] at c1 c2 c3 c4
    refine ⟨gj, nj, ?_, ?_, ?_, ?_, c5, far _ _ c7 c6, c7⟩
    all_goals rw [cell, Array.getElem?_setIfInBounds_ne (by omega), Array.getElem?_setIfInBounds_ne (by omega), Array.getElem?_setIfInBounds_ne (by omega), Array.getElem?_setIfInBounds_ne (by omega)]
    · exact c1
    · exact c2
    · exact c3
    · exact c4
  · obtain rfl : j = k := by omega
    refine ⟨gk, nk, ?_, ?_, ?_, ?_, hl, far _ _ hg hv, hg⟩
    · rw [cell, Array.getElem?_setIfInBounds_ne (by omega), Array.getElem?_setIfInBounds_ne (by omega), Array.getElem?_setIfInBounds_ne (by omega), Array.getElem?_setIfInBounds_self_of_lt (by omega)]
    · rw [cell, Array.getElem?_setIfInBounds_ne (by omega), Array.getElem?_setIfInBounds_ne (by omega), Array.getElem?_setIfInBounds_self_of_lt (by simp; omega)]
    · rw [cell, Array.getElem?_setIfInBounds_ne (by omega), Array.getElem?_setIfInBounds_self_of_lt (by simp; omega)]
    · rw [cell, Array.getElem?_setIfInBounds_self_of_lt (by simp; omega)]

theorem PartI.view {w : World} {g n : Nat} {l : List InstT} (h : PartI w g n n l) (hl : l.length = n) : InstsV w (some ⟨g, 0, none⟩) l := by
  intro j hj
  obtain ⟨gj, nj, c1, c2, c3, c4, c5, c6, c7⟩ := h.each j (by omega)
  exact ⟨g, 0, some ⟨gj, 0, none⟩, nj, nj, rfl, World.block_lt_of_cell? _ _ c1, by rw [Nat.zero_add]; exact c1, by rw [Nat.zero_add]; exact c2, by rw [Nat.zero_add]; exact c3, by rw [Nat.zero_add]; exact c4, c5, c6, Nat.le_refl _⟩

theorem PartI.far {w : World} {g n k : Nat} {l : List InstT} (h : PartI w g n k l) {b : Nat} (hb : b < g) (i : Nat) (v : Value) : PartI (w.setCell ⟨b, i, none⟩ v) g n k l := by
  obtain ⟨⟨cs, h1, h2⟩, h3⟩ := h
  have hx : (w.setCell ⟨b, i, none⟩ v).heap[g]? = w.heap[g]? := Below.heap_setCell _ _ _ _ (by simp; omega)
  have hc : ∀ j, (w.setCell ⟨b, i, none⟩ v).cell? ⟨g, j, none⟩ = w.cell? ⟨g, j, none⟩ := fun j => by simp only [World.cell?, hx]
  refine ⟨⟨cs, by rw [hx]; exact h1, h2⟩, fun j hj => ?_⟩
  obtain ⟨gj, nj, c1, c2, c3, c4, c5, c6, c7⟩ := h3 j hj
  exact ⟨gj, nj, by rw [hc]; exact c1, by rw [hc]; exact c2, by rw [hc]; exact c3, by rw [hc]; exact c4, c5, args_far c6 (by omega) _ _, c7⟩

theorem three_set3 {w : World} {B T : Nat} {z0 z1 z2 : Value} (h : w.heap[B]? = some (.cells #[z0, z1, z2] T (0, 0))) (u0 u1 u2 : Value) :
    (((w.setCell ⟨B, 0, none⟩ u0).setCell ⟨B, 1, none⟩ u1).setCell ⟨B, 2, none⟩ u2).heap[B]? = some (.cells #[u0, u1, u2] T (0, 0)) := by
  simp only [World.setCell, Array.getElem?_modify, h]; simp
theorem three_below3 (w : World) (B : Nat) (u0 u1 u2 : Value) : Below B w (((w.setCell ⟨B, 0, none⟩ u0).setCell ⟨B, 1, none⟩ u1).setCell ⟨B, 2, none⟩ u2) :=
  (((Below.refl B w).setCell (Nat.le_refl _) _).setCell (Nat.le_refl _) _).setCell (Nat.le_refl _) _

set_option maxRecDepth 100000 in
set_option maxHeartbeats 4000000 in
theorem copyModule_any (gen bound : Int) (ax : Option Addr) (n cx : Nat) (l : List InstT) (w : World) (hx : InstsV w ax l) (hok : InstsOk l) (hl : l.length = n) (hn : 40 * n ≤ 140737488351232) :
    Calls Tryz.prog 10 #[modV gen bound ax n cx] w fun e w' => ∃ g, e = .returned (modV gen bound (some ⟨g, 0, none⟩) n n) ∧ w.heap.size ≤ g ∧ InstsV w' (some ⟨g, 0, none⟩) l ∧ Below w.heap.size w w' := by
  obtain ⟨i0, hi, hz0, hz1, hz2⟩ := info_parts CopyModule.info
  unfold modV
  have HL : Hid (l.length = n) := hl
  clear hl
  go_enter Tryz.func10, Tryz.ntmps10
  go_wp2_with (at_make; refine wpList_make_full _ rfl _ _ 23 rfl (w.heap.size + 2) 50 i0 (.agg #[.int .u16 0, .int .u32 0, .int .u32 0, .slice none 0 0]) 4 Tryz.underlying23 hi hz0 hz1 _ _ _ _ n rfl rfl (by omega) (by omega) (by rw [hz2]; omega) (by unfold maxLen; omega) (by simp) ?_)
  intro w1 hown1 hgrow1
  have hb0 : Below w.heap.size w ((w.alloc (.cells #[.int .u32 gen, .int .u32 bound, .slice ax n cx] 25)).alloc (.cells #[.int .u32 0, .int .u32 0, .slice none 0 0] 25)) := ((Below.refl _ w).alloc (Nat.le_refl _) _).alloc (by simp) _
  have hb1 : Below (w.heap.size + 2) ((w.alloc (.cells #[.int .u32 gen, .int .u32 bound, .slice ax n cx] 25)).alloc (.cells #[.int .u32 0, .int .u32 0, .slice none 0 0] 25)) w1 := (Below.refl _ _).grown hgrow1 (by simp) (by simp)
  have hbox : w1.heap[w.heap.size]? = some (.cells #[.int .u32 gen, .int .u32 bound, .slice ax n cx] 25 (0, 0)) := (hb1.block w.heap.size (by omega)).trans ((Below.heap_alloc _ _ _ (by simp)).trans (heap_alloc_new w _))
  have hres : w1.heap[w.heap.size + 1]? = some (.cells #[.int .u32 0, .int .u32 0, .slice none 0 0] 25 (0, 0)) := (hb1.block (w.heap.size + 1) (by omega)).trans (by simpa using heap_alloc_new (w.alloc (.cells #[.int .u32 gen, .int .u32 bound, .slice ax n cx] 25)) (.cells #[.int .u32 0, .int .u32 0, .slice none 0 0] 25))
  have hP1 : PartI w1 (w.heap.size + 2) n 0 l := by
    refine ⟨?_, fun j hj => by omega⟩
    rcases hown1.2 with ⟨h, _⟩ | ⟨g, cap', cur, h1, h2, h3, h4, h5, h6, _⟩
    · simp at h
    · simp at h1; obtain ⟨rfl, rfl⟩ := h1; exact ⟨cur, h3, h6⟩
  have hbw1 : Below w.heap.size w w1 := hb0.trans (hb1.mono (by omega))
  clear hown1 hgrow1 hb0 hb1
  go_wp2
  go_loopw [4] (fun i wr => ∃ k : Nat, k ≤ n ∧ i = .int .i64 k ∧ PartI wr (w.heap.size + 2) n k l ∧ wr.heap[w.heap.size]? = some (.cells #[.int .u32 gen, .int .u32 bound, .slice ax n cx] 25 (0, 0)) ∧ wr.heap[w.heap.size + 1]? = some (.cells #[.int .u32 0, .int .u32 0, .slice none 0 0] 25 (0, 0)) ∧ Below w.heap.size w wr) (fun i _ => n - (intOf i).toNat)
  case atStart => exact ⟨0, Nat.zero_le _, rfl, hP1, hbox, hres, hbw1⟩
  case round =>
    obtain ⟨k, hk, rfl, hP, hbx, hrs, hnx⟩ := hrel
    clear hP1 hbw1 hbox hres
    have hbc : wr.cell? ⟨w.heap.size, 2, none⟩ = some (.slice ax n cx) := by simp [World.cell?, hbx]
    have hsz := hnx.size
    by_cases hlt : k < n
    · obtain ⟨b, off, aj, cj, nj, rfl, hbs, p1, p2, p3, p4, p5, p6, _⟩ := hx k (by rw [HL.out]; exact hlt)
      have q1 := (hnx.cell (p := ⟨b, off + k * 4, none⟩) hbs).trans p1
      have q2 := (hnx.cell (p := ⟨b, off + k * 4 + 1, none⟩) hbs).trans p2
      have q3 := (hnx.cell (p := ⟨b, off + k * 4 + 2, none⟩) hbs).trans p3
      have q4 := (hnx.cell (p := ⟨b, off + k * 4 + 3, none⟩) hbs).trans p4
      obtain ⟨cs, hr1, hr2⟩ := hP.row
      have hgl : w.heap.size + 1 + 1 < wr.heap.size := (Array.getElem?_eq_some_iff.1 hr1).1
      obtain ⟨⟨u0, d0⟩, f0⟩ := cells_can hr1 (k * 4) (by omega)
      obtain ⟨⟨u1, d1⟩, f1⟩ := cells_can hr1 (k * 4 + 1) (by omega)
      obtain ⟨⟨u2, d2⟩, f2⟩ := cells_can hr1 (k * 4 + 2) (by omega)
      obtain ⟨⟨u3, d3⟩, f3⟩ := cells_can hr1 (k * 4 + 3) (by omega)
      have hki : (k : Int) < (n : Int) := by omega
      have hk0 : (0 : Int) ≤ (k : Int) := by omega
      have s1 := (hok k (by rw [HL.out]; exact hlt)).2.2.2.2.2.2.2
      rw [p5] at s1
      have hC := fun wx (hb : Below wr.heap.size wr wx) => copyInst_any (nthI l k) aj nj cj wx ((p6.below hnx).below hb) p5 s1
      unfold instV at hC
      have hbs' : b < wr.heap.size := by omega
      have HX : Hid (wr.heap[w.heap.size]? = some (.cells #[.int .u32 gen, .int .u32 bound, .slice (some ⟨b, off, none⟩) n cx] 25 (0, 0))) := hbx
      have HR : Hid _ := hrs
      have HP : Hid (PartI wr (w.heap.size + 2) n k l) := hP
      have HV3 : Hid ((nthI l k).2.2.2.length = nj) := p5
      clear p1 p2 p3 p4 p5 p6 hr1 hr2 hP hx hok hbx hrs s1
      go_wp2_with fail
      refine (hC _ (Below.refl _ _)).mono ?_
      rintro e w' ⟨g', rfl, hg', hvC, hbC⟩
      have e1 := (hbC.cell (p := ⟨w.heap.size + 1 + 1, k * 4, none⟩) (by exact hgl)).trans d0
      have e2 := (hbC.cell (p := ⟨w.heap.size + 1 + 1, k * 4 + 1, none⟩) (by exact hgl)).trans d1
      have e3 := (hbC.cell (p := ⟨w.heap.size + 1 + 1, k * 4 + 2, none⟩) (by exact hgl)).trans d2
      have e4 := (hbC.cell (p := ⟨w.heap.size + 1 + 1, k * 4 + 3, none⟩) (by exact hgl)).trans d3
      have e5 := (hbC.frozen (p := ⟨w.heap.size + 1 + 1, k * 4, none⟩) (by exact hgl)).trans f0
      have e6 := (hbC.frozen (p := ⟨w.heap.size + 1 + 1, k * 4 + 1, none⟩) (by exact hgl)).trans f1
      have e7 := (hbC.frozen (p := ⟨w.heap.size + 1 + 1, k * 4 + 2, none⟩) (by exact hgl)).trans f2
      have e8 := (hbC.frozen (p := ⟨w.heap.size + 1 + 1, k * 4 + 3, none⟩) (by exact hgl)).trans f3
      have hP2 := (HP.out.below hbC).store hlt g' nj HV3.out hvC (by omega)
      have hX2 := (hbC.block w.heap.size (by omega)).trans HX.out
      have hR2 := (hbC.block (w.heap.size + 1) (by omega)).trans HR.out
      have hB2 := hnx.trans (hbC.mono hsz)
      have HP2 : Hid _ := hP2
      have HX2 : Hid _ := hX2
      have HR2 : Hid _ := hR2
      have HB2 : Hid _ := hB2
      clear hP2 hX2 hR2 hB2 hvC hbC HP HX HR d0 d1 d2 d3 f0 f1 f2 f3 hC
      go_wp2
      go_roundw
      case rel => exact ⟨k + 1, by omega, by go_num, HP2.out, setFar1 (setFar3 HX2.out (by omega) _ _ _ _ _ _) (by omega) _ _, setFar1 (setFar3 HR2.out (by omega) _ _ _ _ _ _) (by omega) _ _, (((HB2.out.setCell (by show w.heap.size ≤ w.heap.size + 1 + 1; omega) _).setCell (by show w.heap.size ≤ w.heap.size + 1 + 1; omega) _).setCell (by show w.heap.size ≤ w.heap.size + 1 + 1; omega) _).setCell (by show w.heap.size ≤ w.heap.size + 1 + 1; omega) _⟩
      case measure => simp [intOf]; omega
    · obtain rfl : k = n := by omega
      obtain ⟨hc, hf⟩ := block_cells hbx
      obtain ⟨hc', hf'⟩ := block_cells hrs
      have c0 := hc 0
      have c1 := hc 1
      have r0 := hc' 0
      have r1 := hc' 1
      have r2 := hc' 2
      have HP : Hid _ := hP
      have HB : Hid _ := hnx
      have HX : Hid _ := hbx
      have HR : Hid _ := hrs
      clear hP hbx hrs hc hc' hx hnx
      go_wp2
      have hB3 := three_set3 (setFar1 HR.out (show w.heap.size + 1 ≠ w.heap.size by omega) 2 (.slice (some ⟨w.heap.size + 1 + 1, 0, none⟩) k k)) (.int .u32 gen) (.int .u32 bound) (.slice (some ⟨w.heap.size + 1 + 1, 0, none⟩) k k)
      have hBel := (HB.out.setCell (p := ⟨w.heap.size, 2, none⟩) (Nat.le_refl _) (.slice (some ⟨w.heap.size + 1 + 1, 0, none⟩) k k)).trans ((three_below3 (wr.setCell ⟨w.heap.size, 2, none⟩ (.slice (some ⟨w.heap.size + 1 + 1, 0, none⟩) k k)) (w.heap.size + 1) (.int .u32 gen) (.int .u32 bound) (.slice (some ⟨w.heap.size + 1 + 1, 0, none⟩) k k)).mono (show w.heap.size ≤ w.heap.size + 1 by omega))
      have hV3 := (((((HP.out.far (b := w.heap.size) (by omega) 2 (.slice (some ⟨w.heap.size + 1 + 1, 0, none⟩) k k)).far (b := w.heap.size + 1) (by omega) 0 (.int .u32 gen)).far (b := w.heap.size + 1) (by omega) 1 (.int .u32 bound)).far (b := w.heap.size + 1) (by omega) 2 (.slice (some ⟨w.heap.size + 1 + 1, 0, none⟩) k k))).view HL.out
      clear HP HB HR HX c0 c1 r0 r1 r2 hf hf'
      generalize (((wr.setCell _ _).setCell _ _).setCell _ _).setCell _ _ = W at hB3 hBel hV3 ⊢
      obtain ⟨hd, _⟩ := block_cells hB3
      have d0 := hd 0
      have d1 := hd 1
      have d2 := hd 2
      refine bodyPost_ret (v := .agg #[.int .u32 gen, .int .u32 bound, .slice (some ⟨w.heap.size + 1 + 1, 0, none⟩) k k]) ?_ rfl ⟨w.heap.size + 1 + 1, rfl, by omega, hV3, hBel⟩
      simp [results, Tryz.results10, go_sem, d0, d1, d2]

end Go.Proofs.YtclgjolplobdbaaGreat
