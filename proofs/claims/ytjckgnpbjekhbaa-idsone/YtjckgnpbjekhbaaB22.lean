/-
  Texts laid together in one: MathOn, MathBk.
-/
import Derived.WalkSpells
import Derived.Test.YtjckgnpbjekhbaaB21
import Derived.Test.YtjckgnpbjekhbaaB10
/-
  A module that is numbered as its ids are made: in plain mathematics.
-/
namespace Go.Proofs.Ytjckgnpbjekhbaa
open Go.RowKit
set_option linter.unusedVariables false
set_option linter.unusedSimpArgs false
set_option maxRecDepth 10000

/-- All that IdsOne asks of the numbered module. -/
structure NumF (l : List InstT) (N B : Nat) (L : List InstT) : Prop where
  len : L.length = l.length
  pos : 0 < B
  top : B ≤ 65536
  ids : idsE (B : Int) L = (0, 0)
  shp : shapeE (B : Int) L = (0, 0)
  cnt : cntR L L.length + 1 = B
  again : turnL (rnF L) L = L
  zero : nth (madeZ L B) 0 = -1
  made : ∀ i, 1 ≤ i → i < B → 0 ≤ nth (madeZ L B) i
  rise : ∀ i, 2 ≤ i → i < B → nth (madeZ L B) (i - 1) < nth (madeZ L B) i
theorem num_of {l : List InstT} {N : Nat} (hok : InstsOk l) (h : (idsE (N : Int) l).1 = 0) : NumF l N (cntR l l.length + 1) (turnL (rnF l) l) := by
  have hs := (layE_ok (ids_sound h).1).2.1
  have hb := shape_bound hs
  have hc := cnt_bound hok (by omega) h
  have hW := rn_way h
  have h0 : ((cntR l l.length + 1 : Nat) : Int) ≠ 0 := by omega
  have h1 : ((cntR l l.length + 1 : Nat) : Int) ≤ 65536 := by omega
  have hi : idsE ((cntR l l.length + 1 : Nat) : Int) (turnL (rnF l) l) = (0, 0) := by rw [ids_turn hok hs hW h0 h1]; exact (ids_sound h).2.1
  have key : ∀ i, 1 ≤ i → i < cntR l l.length + 1 → ∃ p : Nat, p < l.length ∧ cntR l p + 1 = i ∧ nth (madeZ (turnL (rnF l) l) (cntR l l.length + 1)) i = (p : Int) := fun i h1 h2 => by
    obtain ⟨p, hp, hc, hm⟩ := made_rn hok h i h1 (by omega)
    exact ⟨p, hp, hc, by rw [madeZ_at _ _ _ h2, turnL_len]; exact hm⟩
  refine ⟨turnL_len _ _, by omega, by omega, hi, shape_turn hs hW h0 h1, by rw [turnL_len, cnt_turn hW _ (Nat.le_refl _)], renum_turn hok hs hW, ?_, fun i h1 h2 => ?_, fun i h1 h2 => ?_⟩
  · rw [madeZ_at _ _ _ (by omega)]
    unfold makV
    rw [show ((0 : Nat) : Int) = 0 from rfl, makT_zero]; rfl
  · obtain ⟨p, _, _, e⟩ := key i h1 h2
    rw [e]; omega
  · obtain ⟨p, hp, hc1, e⟩ := key i (by omega) h2
    obtain ⟨q, hq, hc2, e2⟩ := key (i - 1) (by omega) (by omega)
    rw [e, e2]
    have := made_up (l := l) (p := q) (q := p) (by omega)
    omega

end Go.Proofs.Ytjckgnpbjekhbaa

/-
  A way and its way back: in plain mathematics.
-/
namespace Go.Proofs.Ytjckgnpbjekhbaa
open Go.RowKit
set_option linter.unusedVariables false
set_option linter.unusedSimpArgs false
set_option maxRecDepth 10000

theorem nth_getB {l : List Int} {i : Nat} (h : i < l.length) : l[i] = nth l i := by simp [nth, List.getD, h]
theorem nth_memB {l : List Int} {i : Nat} (h : i < l.length) : nth l i ∈ l := by rw [← nth_getB h]; exact List.getElem_mem h
theorem nodup_atB {l : List Int} (h : l.Nodup) {i j : Nat} (hi : i < l.length) (hj : j < l.length) (e : nth l i = nth l j) : i = j := by
  have hp := List.pairwise_iff_getElem.1 h
  rcases Nat.lt_trichotomy i j with hlt | he | hlt
  · exact absurd (by rw [nth_getB hi, nth_getB hj]; exact e) (hp i j hi hj hlt)
  · exact he
  · exact absurd (by rw [nth_getB hi, nth_getB hj]; exact e.symm) (hp j i hj hi hlt)
theorem way_at {zs : List Int} {n : Nat} (hw : Within 4294967296 zs) (h : IsWay zs (n : Int)) {i : Nat} (hi : i < n) : 0 ≤ nth zs i ∧ nth zs i < (n : Int) ∧ (nth zs i).toNat < n := by
  have hl : zs.length = n := by have := h.1; omega
  have h1 := hw.at (k := i) (by omega)
  have h2 := h.2.2.1 _ (nth_memB (by omega : i < zs.length))
  omega
theorem occ_in {l : List InstT} {b i : Int} (hok : InstsOk l) (h : (shapeE b l).1 = 0) (hi : Occ l i) : InB b i := by
  obtain ⟨k, hk, hm⟩ := hi
  have hin := ids_in (hok k hk) (shape_each h k hk)
  unfold allI at hm
  rcases List.mem_append.1 hm with hm | hm
  · rcases mem_idsI hm with ⟨h1, rfl⟩ | ⟨j, hj, h2, rfl⟩
    · exact hin.1 h1
    · exact hin.2.2 j hj h2
  · by_cases e : (nthI l k).2.2.1 = 0
    · rw [if_pos e] at hm; cases hm
    · rw [if_neg e] at hm
      obtain rfl := List.mem_singleton.1 hm
      exact hin.2.1 e
/-- A way is other ids, one to one. -/
theorem way_wayF {l : List InstT} {n : Nat} {zs : List Int} (hok : InstsOk l) (hs : (shapeE (n : Int) l).1 = 0) (hw : Within 4294967296 zs) (h : IsWay zs (n : Int)) : WayF l (n : Int) (fW zs) := by
  have hl : zs.length = n := by have := h.1; omega
  constructor
  · intro i hi
    have hb := occ_in hok hs hi
    unfold InB at hb ⊢
    have ha := way_at hw h (show i.toNat < n by omega)
    unfold fW
    have hne : nth zs i.toNat ≠ 0 := fun e => by
      have := nodup_atB h.2.2.2 (i := i.toNat) (j := 0) (by omega) (by omega) (by rw [e, h.2.1])
      omega
    omega
  · intro i j hi hj e
    have hb := occ_in hok hs hi
    have hc := occ_in hok hs hj
    unfold InB at hb hc
    have := nodup_atB h.2.2.2 (i := i.toNat) (j := j.toNat) (by omega) (by omega) e
    omega
end Go.Proofs.Ytjckgnpbjekhbaa
