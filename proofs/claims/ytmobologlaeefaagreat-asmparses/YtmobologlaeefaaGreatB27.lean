/-
  Texts laid together in one: Ref06Tokens, Ref07Head, Ref04Wrong, Ref07Arg.
-/
import Derived.WalkSpells
import Derived.WalkMore
import Derived.Test.YtmobologlaeefaaGreatProg
import Derived.Test.YtmobologlaeefaaGreatB25
import Derived.Test.YtmobologlaeefaaGreatB18
import Derived.Test.YtmobologlaeefaaGreatB26
import Derived.BigRegion
import Derived.Test.YtmobologlaeefaaGreatB16
import Derived.Test.YtmobologlaeefaaGreatB19
import Derived.Deep.QuietTactic
import Derived.BigQuiet
import Derived.Test.YtmobologlaeefaaGreatB01
import Derived.Test.YtmobologlaeefaaGreatB08
import Derived.Test.YtmobologlaeefaaGreatB06
import Derived.Test.YtmobologlaeefaaGreatB10
import Derived.Test.YtmobologlaeefaaGreatB02
/-
  Tokens of the document's answer: the tokens of the line in new memory. Nothing that was there turns.
-/
namespace Go.Proofs.YtmobologlaeefaaGreat
open Go.RowKit
set_option maxRecDepth 10000
set_option linter.unusedVariables false
set_option linter.unusedSimpArgs false

theorem tokP_err {l : List Int} {p : Nat} {e : Int} (h : tokP l p = .inl e) : e ≠ 0 := by
  unfold tokP at h
  repeat' split at h
  all_goals first | (cases h; decide) | (cases h; done)
theorem allocOld2 {w : World} {k : Nat} {x : Obj} (h : w.heap[k]? = some x) (o : Obj) : (w.alloc o).heap[k]? = some x := (Below.heap_alloc _ _ _ (Array.getElem?_eq_some_iff.1 h).1).trans h
theorem own_low {w : World} {B B' e size n : Nat} {v : Value} {xs : List Value} (h : w.ownsRow B e size v n xs) (hB : B' ≤ B) : w.ownsRow B' e size v n xs := by
  refine ⟨h.1, ?_⟩
  rcases h.2 with hn | ⟨g, cap, cur, e1, e2, rest⟩
  · exact .inl hn
  · exact .inr ⟨g, cap, cur, e1, Nat.le_trans hB e2, rest⟩

set_option maxHeartbeats 4000000 in
theorem refTokens_any (s : ByteArray) (w : World) (hs : s.size ≤ 16777216) :
    Calls Tryz.prog 24 #[.string s] w fun e w' => ∃ v, e = .returned (.tuple #[v, .agg #[.int .i64 (toksP (strI s) 0).2.1, .int .i64 (toksP (strI s) 0).2.2]]) ∧ w'.ownsRow w.heap.size 102 3 v (toksP (strI s) 0).1.length ((toksP (strI s) 0).1.flatMap tokC) ∧ Below w.heap.size w w' := by
  obtain ⟨i0, hi, hz0, hz1, hz2⟩ := info_parts TokMake.info
  have HLEN := hid1 (strI_len s)
  have HJ0 : Hid (joinR [] (toksP (strI s) 0) = toksP (strI s) 0) := join_nil _ _
  have HEND : Hid (∀ acc k, ¬ (k < s.size ∧ nth (strI s) k ≠ 59) → joinR acc (toksP (strI s) k) = toksP (strI s) 0 → toksP (strI s) 0 = (acc, 0, 0)) := fun acc k h1 h2 => by
    rw [← h2, toksP_end (by rw [strI_len]; exact h1)]; simp [joinR]
  have HBL : Hid (∀ acc k, k < s.size → blankB (nth (strI s) k) = true → joinR acc (toksP (strI s) k) = toksP (strI s) 0 → joinR acc (toksP (strI s) (k + 1)) = toksP (strI s) 0) := fun acc k h1 h2 h3 => by
    rw [← toksP_blank (by rw [strI_len]; exact h1) h2]; exact h3
  have HER : Hid (∀ acc k e, k < s.size → nth (strI s) k ≠ 59 → blankB (nth (strI s) k) = false → tokP (strI s) k = .inl e → joinR acc (toksP (strI s) k) = toksP (strI s) 0 → toksP (strI s) 0 = ([], e, (k : Int))) := fun acc k e h1 h2 h3 h4 h5 => by
    rw [← h5, toksP_err (by rw [strI_len]; exact h1) h2 h3 h4]; simp [joinR, tokP_err h4]
  have HTK : Hid (∀ acc k kd t q, k < s.size → nth (strI s) k ≠ 59 → blankB (nth (strI s) k) = false → tokP (strI s) k = .inr (kd, t, q) → joinR acc (toksP (strI s) k) = toksP (strI s) 0 → joinR (acc ++ [(kd, strOfNums t, (k : Int))]) (toksP (strI s) q) = toksP (strI s) 0 ∧ k + 1 ≤ q ∧ q ≤ s.size) := fun acc k kd t q h1 h2 h3 h4 h5 => by
    have he := tokP_end (by rw [strI_len]; exact h1) h4
    rw [strI_len] at he
    refine ⟨?_, he.1, he.2⟩
    rw [← join_cons, ← toksP_tok (by rw [strI_len]; exact h1) h2 h3 h4]; exact h5
  have b1 : Below w.heap.size w (w.alloc (.cells #[.int .i64 0, .int .i64 0] 28)) := (Below.refl _ w).alloc (Nat.le_refl _) _
  have k1 : (w.alloc (.cells #[.int .i64 0, .int .i64 0] 28)).heap[w.heap.size]? = some (.cells #[.int .i64 0, .int .i64 0] 28 (0, 0)) := heap_alloc_new w _
  generalize hRR : toksP (strI s) 0 = R at *
  have HOUT : Hid (∀ (W : World), Below w.heap.size w W → W.heap[w.heap.size]? = some (.cells #[.int .i64 0, .int .i64 0] 28 (0, 0)) → ∀ u v, ((W.setCell ⟨w.heap.size, 0, none⟩ (.int .i64 u)).setCell ⟨w.heap.size, 1, none⟩ (.int .i64 v)).cell? ⟨w.heap.size, 0, none⟩ = some (.int .i64 u) ∧ ((W.setCell ⟨w.heap.size, 0, none⟩ (.int .i64 u)).setCell ⟨w.heap.size, 1, none⟩ (.int .i64 v)).cell? ⟨w.heap.size, 1, none⟩ = some (.int .i64 v) ∧ Below w.heap.size w ((W.setCell ⟨w.heap.size, 0, none⟩ (.int .i64 u)).setCell ⟨w.heap.size, 1, none⟩ (.int .i64 v)) ∧ W.cell? ⟨w.heap.size, 0, none⟩ = some (.int .i64 0) ∧ W.cell? ⟨w.heap.size, 1, none⟩ = some (.int .i64 0) ∧ W.frozen? ⟨w.heap.size, 0, none⟩ = false ∧ W.frozen? ⟨w.heap.size, 1, none⟩ = false) := by
    intro W hb hsp u v
    have h := spot_put hsp (.int .i64 u) (.int .i64 v)
    exact ⟨by rw [Lib.cell_of_heap h]; rfl, by rw [Lib.cell_of_heap h]; rfl, (hb.setCell (by simp) _).setCell (by simp) _, by rw [Lib.cell_of_heap hsp]; rfl, by rw [Lib.cell_of_heap hsp]; rfl, Lib.frozen_of_heap hsp 0, Lib.frozen_of_heap hsp 1⟩
  go_enter Tryz.func24, Tryz.ntmps24
  go_wp2_with fail
  go_loopw [4, 5] (fun v i wr => ∃ (k : Nat) (acc : List TokT), k ≤ s.size ∧ i = .int .i64 k ∧ acc.length ≤ k ∧ Hid (joinR acc (toksP (strI s) k) = R) ∧ wr.ownsRow (w.heap.size + 1) 102 3 v acc.length (acc.flatMap tokC) ∧ wr.heap[w.heap.size]? = some (.cells #[.int .i64 0, .int .i64 0] 28 (0, 0)) ∧ Below w.heap.size w wr) (fun _ i _ => s.size - (intOf i).toNat)
  case atStart => exact ⟨0, [], Nat.zero_le _, rfl, Nat.le_refl _, by show _ = _; rw [hRR]; exact HJ0.out, World.ownsRow_nil _ _ _ _, k1, b1⟩
  case round =>
    obtain ⟨k, acc, hk, rfl, hal, HI, hrow, hsp, hbel⟩ := hrel
    have hsz := hbel.size
    have hwl : w.heap.size < wr.heap.size := (Array.getElem?_eq_some_iff.1 hsp).1
    clear k1 b1
    by_cases hlt : k < s.size
    · have hki : (k : Int) < (s.size : Int) := by omega
      have nk := nth_strI s k hlt
      obtain ⟨c0, c1⟩ := byte_lo s k hlt
      by_cases h59 : (s[k].toNat : Int) = 59
      · have HO := hid1 (HEND.out acc k (fun h => h.2 (nk.trans h59)) HI.out)
        obtain ⟨e0, e1, hbE, z0, z1, f0, f1⟩ := HOUT.out wr hbel hsp 0 0
        have h59' : ((s[k].toNat : Int) != 59) = false := by simpa using h59
        have HROW := hid1 (own_low (ownsRow_setCell_below (ownsRow_setCell_below hrow (a := ⟨w.heap.size, 0, none⟩) (by simp) (.int .i64 0)) (a := ⟨w.heap.size, 1, none⟩) (by simp) (.int .i64 0)) (Nat.le_succ _))
        have HBE := hid1 hbE
        have E0 := hid1 e0
        have E1 := hid1 e1
        clear HI nk h59 HEND HBL HER HTK hrow hbel hsp HOUT hbE e0 e1 HJ0 hRR
        go_wp2_with fail
        refine bodyPost_ret (v := .tuple #[u4, .agg #[.int .i64 0, .int .i64 0]]) ?_ rfl ⟨u4, by rw [HO.out], by rw [HO.out]; exact HROW.out, HBE.out⟩
        simp only [results, Tryz.results24]
        simp [go_sem, E0.out, E1.out]
      have h59' : ((s[k].toNat : Int) != 59) = true := by simpa using h59
      have hB := fun wx => refBlank_any (s[k].toNat : Int) wx c0 c1
      cases hbl : blankB (s[k].toNat : Int)
      · have hT := fun wx => refToken_any s k wx hs hlt
        cases htk : tokP (strI s) k with
        | inl er =>
          have hne := tokP_err htk
          have HO := hid1 (HER.out acc k er hlt (by rw [nk]; exact h59) (by rw [nk]; exact hbl) htk HI.out)
          obtain ⟨q1, q2, q3⟩ := tk_bad htk
          rw [q1, q2, q3] at hT
          rw [hbl] at hB
          have hne' : (er != 0) = true := by simpa using hne
          clear hbl htk nk h59 HEND HBL HER HTK HI q1 q2 q3 HJ0 hRR hne
          unfold tokV at hT
          go_wp2_with fail
          refine (hB _).mono ?_
          rintro e w2 ⟨rfl, rfl⟩
          go_wp2_with fail
          refine (hT _).mono ?_
          rintro e w2 ⟨rfl, hb2⟩
          have hsp2 := (hb2.block _ hwl).trans hsp
          have hbel2 := hbel.trans (hb2.mono hsz)
          have hlt2 : w.heap.size < w2.heap.size := Nat.lt_of_lt_of_le hwl hb2.size
          obtain ⟨e0, e1, hbE, z0, z1, f0, f1⟩ := HOUT.out w2 hbel2 hsp2 er k
          have hX : w.heap.size < ((w2.setCell ⟨w.heap.size, 0, none⟩ (.int .i64 er)).setCell ⟨w.heap.size, 1, none⟩ (.int .i64 k)).heap.size := by simpa [World.setCell] using hlt2
          have HBE := hid1 (hbE.alloc hbE.size (.cells #[.int .u8 0, .string ⟨#[]⟩, .int .i64 0] 102))
          have E0 := hid1 ((((Below.refl _ ((w2.setCell ⟨w.heap.size, 0, none⟩ (.int .i64 er)).setCell ⟨w.heap.size, 1, none⟩ (.int .i64 k))).alloc (Nat.le_refl _) (.cells #[.int .u8 0, .string ⟨#[]⟩, .int .i64 0] 102)).cell (p := ⟨w.heap.size, 0, none⟩) hX).trans e0)
          have E1 := hid1 ((((Below.refl _ ((w2.setCell ⟨w.heap.size, 0, none⟩ (.int .i64 er)).setCell ⟨w.heap.size, 1, none⟩ (.int .i64 k))).alloc (Nat.le_refl _) (.cells #[.int .u8 0, .string ⟨#[]⟩, .int .i64 0] 102)).cell (p := ⟨w.heap.size, 1, none⟩) hX).trans e1)
          clear HOUT hbE e0 e1 hsp hbel hrow hb2 hsp2 hbel2 hX
          go_wp2_with fail
          refine bodyPost_ret (v := .tuple #[.slice none 0 0, .agg #[.int .i64 er, .int .i64 k]]) ?_ rfl ⟨_, by rw [HO.out], by rw [HO.out]; exact World.ownsRow_nil _ _ _ _, HBE.out⟩
          simp only [results, Tryz.results24]
          have E0 := E0.out
          have E1 := E1.out
          generalize ((w2.setCell ⟨w.heap.size, 0, none⟩ (.int .i64 er)).setCell ⟨w.heap.size, 1, none⟩ (.int .i64 k)).alloc (.cells #[.int .u8 0, .string ⟨#[]⟩, .int .i64 0] 102) = WF at *
          simp [go_sem, E0, E1]
        | inr x =>
          obtain ⟨kd, t, q⟩ := x
          obtain ⟨j1, j2, j3⟩ := HTK.out acc k kd t q hlt (by rw [nk]; exact h59) (by rw [nk]; exact hbl) htk HI.out
          have HN := hid1 j1
          obtain ⟨q1, q2, q3⟩ := tk_ok htk
          rw [q1, q2, q3] at hT
          rw [hbl] at hB
          clear hbl htk nk h59 HEND HBL HER HTK HI q1 q2 q3 HJ0 hRR HOUT j1
          unfold tokV at hT
          simp only at hT
          generalize strOfNums t = st at *
          have hqk : (k : Int) + ((q - k : Nat) : Int) = (q : Int) := by omega
          go_wp2_with fail
          refine (hB _).mono ?_
          rintro e w2 ⟨rfl, rfl⟩
          go_wp2_with fail
          refine (hT _).mono ?_
          rintro e w2 ⟨rfl, hb2⟩
          have hsp2 := (hb2.block _ hwl).trans hsp
          have hbel2 := hbel.trans (hb2.mono hsz)
          have hlt2 : w.heap.size < w2.heap.size := Nat.lt_of_lt_of_le hwl hb2.size
          have hrow2 := own_below hrow hb2
          have hsp3 := allocOld2 (allocOld2 hsp2 (.cells #[.int .u8 kd, .string st, .int .i64 k] 102)) (.cells #[.int .u8 kd, .string st, .int .i64 k] 102)
          have hbel3 := (hbel2.alloc hbel2.size (.cells #[.int .u8 kd, .string st, .int .i64 k] 102)).alloc (by have := hbel2.size; simp; omega) (.cells #[.int .u8 kd, .string st, .int .i64 k] 102)
          have hra := World.ownsRow.alloc (World.ownsRow.alloc hrow2 (.cells #[.int .u8 kd, .string st, .int .i64 k] 102)) (.cells #[.int .u8 kd, .string st, .int .i64 k] 102)
          have hnone : ∀ kk, u4.ownBlock = some kk → w.heap.size + 1 ≤ kk := fun kk e => (World.ownsRow.lt hrow2 kk e).1
          clear hsp hbel hrow hb2 hsp2 hbel2 hrow2
          go_wp2_with (at_builtin; refine wpList_append_own _ rfl (.tmp 37) (.tmp 39) 54 rfl (w.heap.size + 1) 102 i0 (.agg #[.int .u8 0, .string ⟨#[]⟩, .int .i64 0]) 3 32 Tryz.underlying54 hi hz0 hz1 hz2 rfl (by decide) _ acc.length (acc.flatMap tokC) rfl hra ⟨w2.heap.size + 1, 0, none⟩ 1 1 [.int .u8 kd, .string st, .int .i64 k] rfl rfl ?c1 ?c2 ?c3 ?c4 ?c5 ?_)
          case c1 =>
            intro j u hj
            match j, hj with
            | 0, hj => simp at hj; subst hj; simp [Addr.add]
            | 1, hj => simp at hj; subst hj; simp [Addr.add]
            | 2, hj => simp at hj; subst hj; simp [Addr.add]
          case c2 => intro u hu; simp at hu; rcases hu with rfl | rfl | rfl <;> rfl
          case c3 => unfold maxLen; omega
          case c4 => omega
          case c5 => simp; omega
          intro v2 w3 hown3 hgr3 _
          have hsp4 := (hgr3.block w.heap.size (by simp; omega) (fun e => by have := hnone _ e.symm; omega)).trans hsp3
          have hb4 : Below w.heap.size w w3 := hbel3.grown hgr3 (by simp; omega) (fun kk e => by have := hnone kk e; omega)
          have hrow4 : w3.ownsRow (w.heap.size + 1) 102 3 v2 (acc ++ [(kd, st, (k : Int))]).length ((acc ++ [(kd, st, (k : Int))]).flatMap tokC) := by
            rw [flatT_push, List.length_append]; exact hown3
          clear hown3 hgr3 hra hsp3 hbel3
          go_wp2_with fail
          go_roundw
          case rel => exact ⟨q, acc ++ [(kd, st, (k : Int))], j3, by first | rfl | (rw [hqk]) | go_num, by simp; omega, HN, hrow4, hsp4, hb4⟩
          case measure => simp [intOf]; omega
      · have HN := hid1 (HBL.out acc k hlt (by rw [nk]; exact hbl) HI.out)
        rw [hbl] at hB
        clear hbl nk h59 HEND HBL HER HTK HI HJ0 hRR HOUT
        go_wp2_with fail
        refine (hB _).mono ?_
        rintro e w2 ⟨rfl, rfl⟩
        go_wp2_with fail
        go_roundw
        case rel => exact ⟨k + 1, acc, by omega, by go_num, by omega, HN, hrow, hsp, hbel⟩
        case measure => simp [intOf]; omega
    · obtain rfl : k = s.size := by omega
      have HO := hid1 (HEND.out acc s.size (fun h => by omega) HI.out)
      obtain ⟨e0, e1, hbE, z0, z1, f0, f1⟩ := HOUT.out wr hbel hsp 0 0
      have HROW := hid1 (own_low (ownsRow_setCell_below (ownsRow_setCell_below hrow (a := ⟨w.heap.size, 0, none⟩) (by simp) (.int .i64 0)) (a := ⟨w.heap.size, 1, none⟩) (by simp) (.int .i64 0)) (Nat.le_succ _))
      have HBE := hid1 hbE
      have E0 := hid1 e0
      have E1 := hid1 e1
      clear HI HEND HBL HER HTK hrow hbel hsp HOUT hbE e0 e1 HJ0 hRR
      go_wp2_with fail
      refine bodyPost_ret (v := .tuple #[u4, .agg #[.int .i64 0, .int .i64 0]]) ?_ rfl ⟨u4, by rw [HO.out], by rw [HO.out]; exact HROW.out, HBE.out⟩
      simp only [results, Tryz.results24]
      simp [go_sem, E0.out, E1.out]

end Go.Proofs.YtmobologlaeefaaGreat

/-
  What Head of the document's answer for layer 7 returns.
-/
namespace Go.Proofs.YtmobologlaeefaaGreat
open Go.RowKit
set_option linter.unusedVariables false
set_option linter.unusedSimpArgs false
set_option maxRecDepth 10000

theorem refSpot_any (e p : Int) (w : World) : Calls Tryz.prog 22 #[.int .i64 e, .int .i64 p] w fun x w' => x = .returned (.agg #[.int .i64 e, .int .i64 p]) ∧ Below w.heap.size w w' := by
  go_enter Tryz.func22, Tryz.ntmps22
  go_wp2
  refine bodyPost_ret (v := .agg #[.int .i64 e, .int .i64 p]) ?_ rfl ⟨rfl, ?_⟩
  · simp [results, Tryz.results22, go_sem]
  · exact (Below.refl _ w).alloc (Nat.le_refl _) _

/-- What holds while a head is gone through: the results' boxes, the head so far. -/
structure RefH (w : World) (Bh : Nat) (a : Option Addr) (l : List TokT) (x y : Value) (W : World) : Prop where
  toks : ToksV W a l
  bel : Below w.heap.size w W
  head : W.heap[w.heap.size]? = some (.cells #[.int .u32 0, .int .u32 0] 58 (0, 0))
  spot : W.heap[w.heap.size + 1]? = some (.cells #[.int .i64 0, .int .i64 0] 28 (0, 0))
  own : W.heap[Bh]? = some (.cells #[x, y] 58 (0, 0))
  lt : w.heap.size + 2 ≤ Bh
  far : ∀ b off, a = some ⟨b, off, none⟩ → b ≠ Bh

section
variable {w : World} {Bh : Nat} {a : Option Addr} {l : List TokT} {x y : Value} {W W' : World}
theorem RefH.below (h : RefH w Bh a l x y W) (hb : Below W.heap.size W W') : RefH w Bh a l x y W' :=
  ⟨h.toks.below hb, h.bel.trans (hb.mono h.bel.size), (hb.block _ (Array.getElem?_eq_some_iff.1 h.head).1).trans h.head, (hb.block _ (Array.getElem?_eq_some_iff.1 h.spot).1).trans h.spot, (hb.block _ (Array.getElem?_eq_some_iff.1 h.own).1).trans h.own, h.lt, h.far⟩
theorem RefH.put (h : RefH w Bh a l x y W) (i : Nat) (v : Value) (x' y' : Value) (ho : (W.setCell ⟨Bh, i, none⟩ v).heap[Bh]? = some (.cells #[x', y'] 58 (0, 0))) : RefH w Bh a l x' y' (W.setCell ⟨Bh, i, none⟩ v) := by
  have hl := h.lt
  refine ⟨?_, h.bel.setCell (by simp; omega) _, (Below.heap_setCell _ _ _ _ (by simp; omega)).trans h.head, (Below.heap_setCell _ _ _ _ (by simp; omega)).trans h.spot, ho, h.lt, h.far⟩
  intro j hj
  obtain ⟨b, off, e, hb, h1, h2, h3⟩ := h.toks j hj
  have hx : (W.setCell ⟨Bh, i, none⟩ v).heap[b]? = W.heap[b]? := Below.heap_setCell _ _ _ _ (by simpa using h.far b off e)
  refine ⟨b, off, e, by simpa using hb, ?_, ?_, ?_⟩
  · simp only [World.cell?, hx] at h1 ⊢; exact h1
  · simp only [World.cell?, hx] at h2 ⊢; exact h2
  · simp only [World.cell?, hx] at h3 ⊢; exact h3
theorem RefH.put0 (h : RefH w Bh a l x y W) (v : Value) : RefH w Bh a l v y (W.setCell ⟨Bh, 0, none⟩ v) := h.put 0 v v y (by have := h.own; simp [World.setCell, Array.getElem?_modify, this])
theorem RefH.put1 (h : RefH w Bh a l x y W) (v : Value) : RefH w Bh a l x v (W.setCell ⟨Bh, 1, none⟩ v) := h.put 1 v x v (by have := h.own; simp [World.setCell, Array.getElem?_modify, this])
end

def genAt (l : List TokT) (k : Nat) : Int := if 2 ≤ k then numV (strI (nthT l 1).2.1) else 0
def bndAt (l : List TokT) (k : Nat) : Int := if 3 ≤ k then numV (strI (nthT l 2).2.1) else 0
/-- The first k tokens are right. -/
def HeadTo (l : List TokT) (k : Nat) : Prop := (1 ≤ k → (nthT l 0).1 = 1 ∧ (nthT l 0).2.1 = moduleS) ∧ (2 ≤ k → numP (nthT l 1) = 0) ∧ (3 ≤ k → numP (nthT l 2) = 0 ∧ ¬ (numV (strI (nthT l 2).2.1) < 1 ∨ 65536 < numV (strI (nthT l 2).2.1)))

theorem head_next0 {l : List TokT} : (nthT l 0).1 = 1 → (nthT l 0).2.1 = moduleS → HeadTo l 1 := fun h1 h2 => ⟨fun _ => ⟨h1, h2⟩, fun h => by omega, fun h => by omega⟩

set_option maxHeartbeats 8000000 in
theorem refHead7_any (s : ByteArray) (w : World) (hs : s.size ≤ 16777216) :
    Calls Tryz.prog 25 #[.string s] w fun e w' => e = .returned (.tuple #[.agg #[.int .u32 (headS s).1, .int .u32 (headS s).2.1], .agg #[.int .i64 (headS s).2.2.1, .int .i64 (headS s).2.2.2]]) ∧ Below w.heap.size w w' := by
  have hT := fun wx => refTokens_any s wx hs
  obtain ⟨_, _, g3, g4, _⟩ := toks_good (strI_within s) 0
  have hIn := toksIn_of (l := (toksP (strI s) 0).1) (n := (strI s).length) (by rw [strI_len]; omega) g4
  rw [strI_len] at g3
  obtain ⟨H, hH⟩ : ∃ H, H = headS s := ⟨_, rfl⟩
  rw [← hH]
  unfold headS at hH
  obtain ⟨R, hR⟩ : ∃ R, R = toksP (strI s) 0 := ⟨_, rfl⟩
  rw [← hR] at hT hH g3 hIn
  clear hR g4
  obtain ⟨l, er, at_⟩ := R
  simp only at hT hH g3 hIn
  have hB0 : Below w.heap.size w ((w.alloc (.cells #[.int .u32 0, .int .u32 0] 58)).alloc (.cells #[.int .i64 0, .int .i64 0] 28)) := ((Below.refl _ w).alloc (Nat.le_refl _) _).alloc (by simp) _
  have kH : ((w.alloc (.cells #[.int .u32 0, .int .u32 0] 58)).alloc (.cells #[.int .i64 0, .int .i64 0] 28)).heap[w.heap.size]? = some (.cells #[.int .u32 0, .int .u32 0] 58 (0, 0)) := (Below.heap_alloc _ _ _ (by simp)).trans (heap_alloc_new w _)
  have kS : ((w.alloc (.cells #[.int .u32 0, .int .u32 0] 58)).alloc (.cells #[.int .i64 0, .int .i64 0] 28)).heap[w.heap.size + 1]? = some (.cells #[.int .i64 0, .int .i64 0] 28 (0, 0)) := by simpa using heap_alloc_new (w.alloc (.cells #[.int .u32 0, .int .u32 0] 58)) (.cells #[.int .i64 0, .int .i64 0] 28)
  go_enter Tryz.func25, Tryz.ntmps25
  go_wp2_with fail
  generalize (w.alloc (.cells #[.int .u32 0, .int .u32 0] 58)).alloc (.cells #[.int .i64 0, .int .i64 0] 28) = W at *
  refine (hT _).mono ?_
  rintro e w1 ⟨v1, rfl, hrow, hb1⟩
  obtain ⟨a1, c1, rfl⟩ := own_shape7 hrow
  have sS := (Array.getElem?_eq_some_iff.1 kS).1
  have s1 : w.heap.size + 1 < w1.heap.size := Nat.lt_of_lt_of_le sS hb1.size
  obtain ⟨hv, hfar⟩ := toks_of_own hrow rfl
  by_cases he : er = 0
  · subst he
    rw [if_neg (by simp)] at hH
    have hba : Below w1.heap.size w1 ((w1.alloc (.cells #[.int .i64 0, .int .i64 at_] 28)).alloc (.cells #[.int .u32 0, .int .u32 0] 58)) := ((Below.refl _ w1).alloc (Nat.le_refl _) _).alloc (by simp) _
    have hb1a := hb1.trans (hba.mono hb1.size)
    have hS0 : RefH w (w1.heap.size + 1) a1 l (.int .u32 0) (.int .u32 0) ((w1.alloc (.cells #[.int .i64 0, .int .i64 at_] 28)).alloc (.cells #[.int .u32 0, .int .u32 0] 58)) :=
      ⟨hv.below hba, hB0.trans (hb1a.mono hB0.size), (hb1a.block _ (by omega)).trans kH, (hb1a.block _ sS).trans kS, by simpa using heap_alloc_new (w1.alloc (.cells #[.int .i64 0, .int .i64 at_] 28)) (.cells #[.int .u32 0, .int .u32 0] 58), by omega, fun b off e => by have := hfar b off e; omega⟩
    have HS0 := hide hS0
    have HH := hide hH
    have HG3 := hide g3
    have HIN := hide hIn
    have hnb : (l.length : Int) ≤ 16777216 := by omega
    have hSp := refSpot_any
    have hNm := fun (k : Nat) (hk : k < l.length) (wx : World) => refNumber_any (nthT l k).2.1 wx (HIN.out k hk).2.2.1
    have HNM := hide hNm
    clear hT hrow hb1 hba hb1a hS0 hH g3 hIn hv hfar kH kS hB0 hNm
    go_wp2_with fail
    generalize hW2 : (w1.alloc (.cells #[.int .i64 0, .int .i64 at_] 28)).alloc (.cells #[.int .u32 0, .int .u32 0] 58) = W2 at *
    generalize hBh : w1.heap.size + 1 = Bh at *
    clear hW2 hBh
    go_loopw [7] (fun i wr => ∃ k : Nat, k ≤ l.length ∧ k ≤ 3 ∧ i = .int .i64 k ∧ RefH w Bh a1 l (.int .u32 (genAt l k)) (.int .u32 (bndAt l k)) wr ∧ Hid (HeadTo l k)) (fun i _ => l.length - (intOf i).toNat)
    case atStart => exact ⟨0, Nat.zero_le _, by omega, rfl, HS0.out, ⟨fun h => by omega, fun h => by omega, fun h => by omega⟩⟩
    case round =>
      obtain ⟨k, hk, hk3, rfl, hS, HTO⟩ := hrel
      clear HS0
      have HHS := hide hS
      by_cases hlt : k < l.length
      · obtain ⟨g1, o1, rfl, hg1, t1, t2, t3⟩ := hS.toks k hlt
        have hki : (k : Int) < (l.length : Int) := by omega
        have hN := HNM.out k hlt
        have hi := HIN.out k hlt
        clear hS HNM
        have hk4 : k = 0 ∨ k = 1 ∨ k = 2 ∨ k = 3 := by omega
        rcases hk4 with rfl | rfl | rfl | rfl
        · have HX := hide (headP_first (len := (s.size : Int)) hlt)
          rw [← HH.out] at HX
          have HNX := hide (head_next0 (l := l))
          generalize nthT l 0 = z at *
          obtain ⟨z1, z2, z3⟩ := z
          simp only [Nat.zero_mul, Nat.add_zero] at t1 t2 t3
          simp only at t1 t2 t3 hN hi HX HNX
          by_cases hk1 : z1 = 1
          · subst hk1
            by_cases hm : z2 = moduleS
            · have hm' : (z2.toList == [109, 111, 100, 117, 108, 101]) = true := by rw [beq_iff_eq, hm]; exact mod_list
              have HM := hide hm
              clear hm
              go_wp2_with fail
              go_roundw
              case rel => exact ⟨1, by omega, by omega, by go_num, HHS.out, HNX.out rfl HM.out⟩
              case measure => simp [intOf]; omega
            · have hm' : (z2.toList == [109, 111, 100, 117, 108, 101]) = false := by
                rw [beq_eq_false_iff_ne]
                intro e
                exact hm (str_injA (e.trans mod_list.symm))
              have HE8 := hide (HX.out (by simp [hm]))
              clear hm
              go_wp2_with fail
              refine (hSp (70) (z3) _).mono ?_
              rintro x w5 ⟨rfl, hb5⟩
              have hS5 := HHS.out.below hb5
              obtain ⟨ch, fh⟩ := blk_cells hS5.head
              obtain ⟨cp, fp⟩ := blk_cells hS5.spot
              have u0 := ch 0
              have u1 := ch 1
              have p0 := cp 0
              have p1 := cp 1
              obtain ⟨r1, r2, r3⟩ := four_putX hS5.head hS5.spot (.int .u32 0) (.int .u32 0) (.int .i64 (70)) (.int .i64 (z3))
              have HY := hide (hS5.bel.trans r3)
              have HY1 := hide r1
              have HY2 := hide r2
              clear r1 r2 r3 ch cp hS5 hb5 HHS
              go_wp2_with fail
              generalize (((w5.setCell ⟨w.heap.size, 0, none⟩ (.int .u32 0)).setCell ⟨w.heap.size, 1, none⟩ (.int .u32 0)).setCell ⟨w.heap.size + 1, 0, none⟩ (.int .i64 (70))).setCell ⟨w.heap.size + 1, 1, none⟩ (.int .i64 (z3)) = X at *
              obtain ⟨e1, _⟩ := blk_cells HY1.out
              obtain ⟨e2, _⟩ := blk_cells HY2.out
              have a0 := e1 0
              have a1 := e1 1
              have b0 := e2 0
              have b1 := e2 1
              refine bodyPost_ret (v := .tuple #[.agg #[.int .u32 0, .int .u32 0], .agg #[.int .i64 (70), .int .i64 (z3)]]) ?_ rfl ⟨by rw [HE8.out], HY.out⟩
              simp [results, Tryz.results25, go_sem, a0, a1, b0, b1]
          · have hk1' : (z1 != 1) = true := by simp [hk1]
            have HE8 := hide (HX.out (by simp [hk1]))
            clear hk1
            go_wp2_with fail
            refine (hSp (70) (z3) _).mono ?_
            rintro x w5 ⟨rfl, hb5⟩
            have hS5 := HHS.out.below hb5
            obtain ⟨ch, fh⟩ := blk_cells hS5.head
            obtain ⟨cp, fp⟩ := blk_cells hS5.spot
            have u0 := ch 0
            have u1 := ch 1
            have p0 := cp 0
            have p1 := cp 1
            obtain ⟨r1, r2, r3⟩ := four_putX hS5.head hS5.spot (.int .u32 0) (.int .u32 0) (.int .i64 (70)) (.int .i64 (z3))
            have HY := hide (hS5.bel.trans r3)
            have HY1 := hide r1
            have HY2 := hide r2
            clear r1 r2 r3 ch cp hS5 hb5 HHS
            go_wp2_with fail
            generalize (((w5.setCell ⟨w.heap.size, 0, none⟩ (.int .u32 0)).setCell ⟨w.heap.size, 1, none⟩ (.int .u32 0)).setCell ⟨w.heap.size + 1, 0, none⟩ (.int .i64 (70))).setCell ⟨w.heap.size + 1, 1, none⟩ (.int .i64 (z3)) = X at *
            obtain ⟨e1, _⟩ := blk_cells HY1.out
            obtain ⟨e2, _⟩ := blk_cells HY2.out
            have a0 := e1 0
            have a1 := e1 1
            have b0 := e2 0
            have b1 := e2 1
            refine bodyPost_ret (v := .tuple #[.agg #[.int .u32 0, .int .u32 0], .agg #[.int .i64 (70), .int .i64 (z3)]]) ?_ rfl ⟨by rw [HE8.out], HY.out⟩
            simp [results, Tryz.results25, go_sem, a0, a1, b0, b1]
        · have hok := HTO.out.1 (by omega)
          have HX := hide (headP_one (len := (s.size : Int)) hlt hok)
          rw [← HH.out] at HX
          have hown := HHS.out.own
          obtain ⟨ch, fh0⟩ := blk_cells hown
          have h0c := ch 0
          have h1c := ch 1
          clear ch hown
          obtain ⟨z, hz⟩ : ∃ z, z = nthT l 1 := ⟨_, rfl⟩
          rw [← hz] at t1 t2 t3 hN hi HX
          have HZ := hide hz
          clear hz
          obtain ⟨z1, z2, z3⟩ := z
          simp only at t1 t2 t3 hN hi HX
          by_cases hk1 : z1 = 3
          · subst hk1
            have hnp : numP ((3, z2, z3) : TokT) = numErr (strI z2) := numP_num rfl
            rw [hnp] at HX
            have HNV := hide (fun (h : numErr (strI z2) = 0) => numV_ok (numErr_zero h))
            generalize hne : numErr (strI z2) = ne at *
            generalize hno : numOut (strI z2) = no at *
            have HNE := hide hne
            have HNO := hide hno
            clear hne hno hnp
            go_wp2_with fail
            refine (hN _).mono ?_
            rintro x w' ⟨rfl, rfl⟩
            by_cases hz0 : ne = 0
            · subst hz0
              obtain ⟨e1, e2, e3, e4⟩ := HNV.out (by trivial)
              have HP := hide (HHS.out.put0 (.int .u32 no))
              have hgen : genAt l 2 = no := by unfold genAt; rw [if_pos (by omega), ← HZ.out]; exact e2.symm
              have hbn : bndAt l 2 = bndAt l 1 := rfl
              have HNX : Hid (HeadTo l 2) := ⟨fun _ => hok, fun _ => by rw [← HZ.out, numP_num rfl]; exact HNE.out, fun h => by omega⟩
              have HGB : Hid (genAt l 2 = no ∧ bndAt l 2 = bndAt l 1) := ⟨hgen, hbn⟩
              clear e1 e2 e3 e4 hgen hbn HHS
              go_wp2_with fail
              go_roundw
              case rel => exact ⟨2, by omega, by omega, by go_num, by rw [HGB.out.1, HGB.out.2]; exact HP.out, HNX⟩
              case measure => simp [intOf]; omega
            · have hz0' : (ne != 0) = true := by simp [hz0]
              have HE8 := hide (HX.out hz0)
              clear hz0
              go_wp2_with fail
              refine (hSp (ne) (z3) _).mono ?_
              rintro x w5 ⟨rfl, hb5⟩
              have hS5 := HHS.out.below hb5
              obtain ⟨ch, fh⟩ := blk_cells hS5.head
              obtain ⟨cp, fp⟩ := blk_cells hS5.spot
              have u0 := ch 0
              have u1 := ch 1
              have p0 := cp 0
              have p1 := cp 1
              obtain ⟨r1, r2, r3⟩ := four_putX hS5.head hS5.spot (.int .u32 0) (.int .u32 0) (.int .i64 (ne)) (.int .i64 (z3))
              have HY := hide (hS5.bel.trans r3)
              have HY1 := hide r1
              have HY2 := hide r2
              clear r1 r2 r3 ch cp hS5 hb5 HHS
              go_wp2_with fail
              generalize (((w5.setCell ⟨w.heap.size, 0, none⟩ (.int .u32 0)).setCell ⟨w.heap.size, 1, none⟩ (.int .u32 0)).setCell ⟨w.heap.size + 1, 0, none⟩ (.int .i64 (ne))).setCell ⟨w.heap.size + 1, 1, none⟩ (.int .i64 (z3)) = X at *
              obtain ⟨e1, _⟩ := blk_cells HY1.out
              obtain ⟨e2, _⟩ := blk_cells HY2.out
              have a0 := e1 0
              have a1 := e1 1
              have b0 := e2 0
              have b1 := e2 1
              refine bodyPost_ret (v := .tuple #[.agg #[.int .u32 0, .int .u32 0], .agg #[.int .i64 (ne), .int .i64 (z3)]]) ?_ rfl ⟨by rw [HE8.out], HY.out⟩
              simp [results, Tryz.results25, go_sem, a0, a1, b0, b1]
          · have hk1' : (z1 != 3) = true := by simp [hk1]
            have hnp : numP ((z1, z2, z3) : TokT) = 70 := numP_kind hk1
            rw [hnp] at HX
            have HE8 := hide (HX.out (by decide))
            clear hk1 hnp
            go_wp2_with fail
            refine (hSp (70) (z3) _).mono ?_
            rintro x w5 ⟨rfl, hb5⟩
            have hS5 := HHS.out.below hb5
            obtain ⟨ch, fh⟩ := blk_cells hS5.head
            obtain ⟨cp, fp⟩ := blk_cells hS5.spot
            have u0 := ch 0
            have u1 := ch 1
            have p0 := cp 0
            have p1 := cp 1
            obtain ⟨r1, r2, r3⟩ := four_putX hS5.head hS5.spot (.int .u32 0) (.int .u32 0) (.int .i64 (70)) (.int .i64 (z3))
            have HY := hide (hS5.bel.trans r3)
            have HY1 := hide r1
            have HY2 := hide r2
            clear r1 r2 r3 ch cp hS5 hb5 HHS
            go_wp2_with fail
            generalize (((w5.setCell ⟨w.heap.size, 0, none⟩ (.int .u32 0)).setCell ⟨w.heap.size, 1, none⟩ (.int .u32 0)).setCell ⟨w.heap.size + 1, 0, none⟩ (.int .i64 (70))).setCell ⟨w.heap.size + 1, 1, none⟩ (.int .i64 (z3)) = X at *
            obtain ⟨e1, _⟩ := blk_cells HY1.out
            obtain ⟨e2, _⟩ := blk_cells HY2.out
            have a0 := e1 0
            have a1 := e1 1
            have b0 := e2 0
            have b1 := e2 1
            refine bodyPost_ret (v := .tuple #[.agg #[.int .u32 0, .int .u32 0], .agg #[.int .i64 (70), .int .i64 (z3)]]) ?_ rfl ⟨by rw [HE8.out], HY.out⟩
            simp [results, Tryz.results25, go_sem, a0, a1, b0, b1]
        · have hok := HTO.out.1 (by omega)
          have HX := hide (headP_two (len := (s.size : Int)) hlt hok (HTO.out.2.1 (by omega)))
          rw [← HH.out] at HX
          have hown := HHS.out.own
          obtain ⟨ch, fh0⟩ := blk_cells hown
          have h0c := ch 0
          have h1c := ch 1
          clear ch hown
          obtain ⟨z, hz⟩ : ∃ z, z = nthT l 2 := ⟨_, rfl⟩
          rw [← hz] at t1 t2 t3 hN hi HX
          have HZ := hide hz
          clear hz
          obtain ⟨z1, z2, z3⟩ := z
          simp only at t1 t2 t3 hN hi HX
          by_cases hk1 : z1 = 3
          · subst hk1
            have hnp : numP ((3, z2, z3) : TokT) = numErr (strI z2) := numP_num rfl
            rw [hnp] at HX
            have HNV := hide (fun (h : numErr (strI z2) = 0) => numV_ok (numErr_zero h))
            generalize hne : numErr (strI z2) = ne at *
            generalize hno : numOut (strI z2) = no at *
            have HNE := hide hne
            have HNO := hide hno
            clear hne hno hnp
            go_wp2_with fail
            refine (hN _).mono ?_
            rintro x w' ⟨rfl, rfl⟩
            by_cases hz0 : ne = 0
            · subst hz0
              obtain ⟨e1, e2, e3, e4⟩ := HNV.out (by trivial)
              have HP := hide (HHS.out.put1 (.int .u32 no))
              have hvn : numV (strI z2) = no := e2.symm
              have hgen : genAt l 3 = genAt l 2 := rfl
              have hbn : bndAt l 3 = no := by unfold bndAt; rw [if_pos (by omega), ← HZ.out]; exact hvn
              have HGB : Hid (genAt l 3 = genAt l 2 ∧ bndAt l 3 = no) := ⟨hgen, hbn⟩
              have HE7 := hide (HX.out.2 (by trivial))
              rw [hvn] at HE7
              have hno0 : 0 ≤ no := by rw [← hvn]; exact e3
              have hno1 : no < 4294967296 := by rw [← hvn]; exact e4
              have HNX : Hid (¬ (no < 1 ∨ 65536 < no) → HeadTo l 3) := fun h => ⟨fun _ => hok, fun _ => HTO.out.2.1 (by omega), fun _ => by rw [← HZ.out]; exact ⟨by rw [numP_num rfl]; exact HNE.out, by simp only; rw [hvn]; exact h⟩⟩
              clear e1 e2 e3 e4 hgen hbn hvn
              by_cases hb : no < 1 ∨ 65536 < no
              · have HE8 := hide (HE7.out hb)
                have HHS := HP
                clear HE7 HNX HP
                by_cases hb1 : no < 1
                · have hd1 : decide (no < 1) = true := decide_eq_true hb1
                  clear hb hb1
                  go_wp2_with fail
                  refine (hSp (24) (z3) _).mono ?_
                  rintro x w5 ⟨rfl, hb5⟩
                  have hS5 := HHS.out.below hb5
                  obtain ⟨ch, fh⟩ := blk_cells hS5.head
                  obtain ⟨cp, fp⟩ := blk_cells hS5.spot
                  have u0 := ch 0
                  have u1 := ch 1
                  have p0 := cp 0
                  have p1 := cp 1
                  obtain ⟨r1, r2, r3⟩ := four_putX hS5.head hS5.spot (.int .u32 0) (.int .u32 0) (.int .i64 (24)) (.int .i64 (z3))
                  have HY := hide (hS5.bel.trans r3)
                  have HY1 := hide r1
                  have HY2 := hide r2
                  clear r1 r2 r3 ch cp hS5 hb5 HHS
                  go_wp2_with fail
                  generalize (((w5.setCell ⟨w.heap.size, 0, none⟩ (.int .u32 0)).setCell ⟨w.heap.size, 1, none⟩ (.int .u32 0)).setCell ⟨w.heap.size + 1, 0, none⟩ (.int .i64 (24))).setCell ⟨w.heap.size + 1, 1, none⟩ (.int .i64 (z3)) = X at *
                  obtain ⟨e1, _⟩ := blk_cells HY1.out
                  obtain ⟨e2, _⟩ := blk_cells HY2.out
                  have a0 := e1 0
                  have a1 := e1 1
                  have b0 := e2 0
                  have b1 := e2 1
                  refine bodyPost_ret (v := .tuple #[.agg #[.int .u32 0, .int .u32 0], .agg #[.int .i64 (24), .int .i64 (z3)]]) ?_ rfl ⟨by rw [HE8.out], HY.out⟩
                  simp [results, Tryz.results25, go_sem, a0, a1, b0, b1]
                · have hd1 : decide (no < 1) = false := decide_eq_false hb1
                  have hd2 : decide ((65536 : Int) < no) = true := decide_eq_true (by omega)
                  clear hb hb1
                  go_wp2_with fail
                  refine (hSp (24) (z3) _).mono ?_
                  rintro x w5 ⟨rfl, hb5⟩
                  have hS5 := HHS.out.below hb5
                  obtain ⟨ch, fh⟩ := blk_cells hS5.head
                  obtain ⟨cp, fp⟩ := blk_cells hS5.spot
                  have u0 := ch 0
                  have u1 := ch 1
                  have p0 := cp 0
                  have p1 := cp 1
                  obtain ⟨r1, r2, r3⟩ := four_putX hS5.head hS5.spot (.int .u32 0) (.int .u32 0) (.int .i64 (24)) (.int .i64 (z3))
                  have HY := hide (hS5.bel.trans r3)
                  have HY1 := hide r1
                  have HY2 := hide r2
                  clear r1 r2 r3 ch cp hS5 hb5 HHS
                  go_wp2_with fail
                  generalize (((w5.setCell ⟨w.heap.size, 0, none⟩ (.int .u32 0)).setCell ⟨w.heap.size, 1, none⟩ (.int .u32 0)).setCell ⟨w.heap.size + 1, 0, none⟩ (.int .i64 (24))).setCell ⟨w.heap.size + 1, 1, none⟩ (.int .i64 (z3)) = X at *
                  obtain ⟨e1, _⟩ := blk_cells HY1.out
                  obtain ⟨e2, _⟩ := blk_cells HY2.out
                  have a0 := e1 0
                  have a1 := e1 1
                  have b0 := e2 0
                  have b1 := e2 1
                  refine bodyPost_ret (v := .tuple #[.agg #[.int .u32 0, .int .u32 0], .agg #[.int .i64 (24), .int .i64 (z3)]]) ?_ rfl ⟨by rw [HE8.out], HY.out⟩
                  simp [results, Tryz.results25, go_sem, a0, a1, b0, b1]
              · have hd1 : decide (no < 1) = false := decide_eq_false (by omega)
                have hd2 : decide ((65536 : Int) < no) = false := decide_eq_false (by omega)
                have HN3 := hide (HNX.out hb)
                clear hb HNX HE7 HHS
                go_wp2_with fail
                go_roundw
                case rel => exact ⟨3, by omega, by omega, by go_num, by rw [HGB.out.1, HGB.out.2]; exact HP.out, HN3.out⟩
                case measure => simp [intOf]; omega
            · have hz0' : (ne != 0) = true := by simp [hz0]
              have HE8 := hide (HX.out.1 hz0)
              clear hz0
              go_wp2_with fail
              refine (hSp (ne) (z3) _).mono ?_
              rintro x w5 ⟨rfl, hb5⟩
              have hS5 := HHS.out.below hb5
              obtain ⟨ch, fh⟩ := blk_cells hS5.head
              obtain ⟨cp, fp⟩ := blk_cells hS5.spot
              have u0 := ch 0
              have u1 := ch 1
              have p0 := cp 0
              have p1 := cp 1
              obtain ⟨r1, r2, r3⟩ := four_putX hS5.head hS5.spot (.int .u32 0) (.int .u32 0) (.int .i64 (ne)) (.int .i64 (z3))
              have HY := hide (hS5.bel.trans r3)
              have HY1 := hide r1
              have HY2 := hide r2
              clear r1 r2 r3 ch cp hS5 hb5 HHS
              go_wp2_with fail
              generalize (((w5.setCell ⟨w.heap.size, 0, none⟩ (.int .u32 0)).setCell ⟨w.heap.size, 1, none⟩ (.int .u32 0)).setCell ⟨w.heap.size + 1, 0, none⟩ (.int .i64 (ne))).setCell ⟨w.heap.size + 1, 1, none⟩ (.int .i64 (z3)) = X at *
              obtain ⟨e1, _⟩ := blk_cells HY1.out
              obtain ⟨e2, _⟩ := blk_cells HY2.out
              have a0 := e1 0
              have a1 := e1 1
              have b0 := e2 0
              have b1 := e2 1
              refine bodyPost_ret (v := .tuple #[.agg #[.int .u32 0, .int .u32 0], .agg #[.int .i64 (ne), .int .i64 (z3)]]) ?_ rfl ⟨by rw [HE8.out], HY.out⟩
              simp [results, Tryz.results25, go_sem, a0, a1, b0, b1]
          · have hk1' : (z1 != 3) = true := by simp [hk1]
            have hnp : numP ((z1, z2, z3) : TokT) = 70 := numP_kind hk1
            rw [hnp] at HX
            have HE8 := hide (HX.out.1 (by decide))
            clear hk1 hnp
            go_wp2_with fail
            refine (hSp (70) (z3) _).mono ?_
            rintro x w5 ⟨rfl, hb5⟩
            have hS5 := HHS.out.below hb5
            obtain ⟨ch, fh⟩ := blk_cells hS5.head
            obtain ⟨cp, fp⟩ := blk_cells hS5.spot
            have u0 := ch 0
            have u1 := ch 1
            have p0 := cp 0
            have p1 := cp 1
            obtain ⟨r1, r2, r3⟩ := four_putX hS5.head hS5.spot (.int .u32 0) (.int .u32 0) (.int .i64 (70)) (.int .i64 (z3))
            have HY := hide (hS5.bel.trans r3)
            have HY1 := hide r1
            have HY2 := hide r2
            clear r1 r2 r3 ch cp hS5 hb5 HHS
            go_wp2_with fail
            generalize (((w5.setCell ⟨w.heap.size, 0, none⟩ (.int .u32 0)).setCell ⟨w.heap.size, 1, none⟩ (.int .u32 0)).setCell ⟨w.heap.size + 1, 0, none⟩ (.int .i64 (70))).setCell ⟨w.heap.size + 1, 1, none⟩ (.int .i64 (z3)) = X at *
            obtain ⟨e1, _⟩ := blk_cells HY1.out
            obtain ⟨e2, _⟩ := blk_cells HY2.out
            have a0 := e1 0
            have a1 := e1 1
            have b0 := e2 0
            have b1 := e2 1
            refine bodyPost_ret (v := .tuple #[.agg #[.int .u32 0, .int .u32 0], .agg #[.int .i64 (70), .int .i64 (z3)]]) ?_ rfl ⟨by rw [HE8.out], HY.out⟩
            simp [results, Tryz.results25, go_sem, a0, a1, b0, b1]
        · have h3 := HTO.out.2.2 (by omega)
          have HX := hide (headP_three (len := (s.size : Int)) (by omega) (HTO.out.1 (by omega)) (HTO.out.2.1 (by omega)) h3.1 h3.2)
          rw [if_pos hlt, ← HH.out] at HX
          clear h3
          generalize nthT l 3 = z at *
          obtain ⟨z1, z2, z3⟩ := z
          simp only at t1 t2 t3 hN hi HX
          go_wp2_with fail
          refine (hSp (70) (z3) _).mono ?_
          rintro x w5 ⟨rfl, hb5⟩
          have hS5 := HHS.out.below hb5
          obtain ⟨ch, fh⟩ := blk_cells hS5.head
          obtain ⟨cp, fp⟩ := blk_cells hS5.spot
          have u0 := ch 0
          have u1 := ch 1
          have p0 := cp 0
          have p1 := cp 1
          obtain ⟨r1, r2, r3⟩ := four_putX hS5.head hS5.spot (.int .u32 0) (.int .u32 0) (.int .i64 (70)) (.int .i64 (z3))
          have HY := hide (hS5.bel.trans r3)
          have HY1 := hide r1
          have HY2 := hide r2
          clear r1 r2 r3 ch cp hS5 hb5 HHS
          go_wp2_with fail
          generalize (((w5.setCell ⟨w.heap.size, 0, none⟩ (.int .u32 0)).setCell ⟨w.heap.size, 1, none⟩ (.int .u32 0)).setCell ⟨w.heap.size + 1, 0, none⟩ (.int .i64 (70))).setCell ⟨w.heap.size + 1, 1, none⟩ (.int .i64 (z3)) = X at *
          obtain ⟨e1, _⟩ := blk_cells HY1.out
          obtain ⟨e2, _⟩ := blk_cells HY2.out
          have a0 := e1 0
          have a1 := e1 1
          have b0 := e2 0
          have b1 := e2 1
          refine bodyPost_ret (v := .tuple #[.agg #[.int .u32 0, .int .u32 0], .agg #[.int .i64 (70), .int .i64 (z3)]]) ?_ rfl ⟨by rw [HX.out], HY.out⟩
          simp [results, Tryz.results25, go_sem, a0, a1, b0, b1]
      · obtain rfl : k = l.length := by omega
        have hown := hS.own
        obtain ⟨ch, fh0⟩ := blk_cells hown
        have h0c := ch 0
        have h1c := ch 1
        clear hS HNM ch hown
        by_cases h3 : l.length < 3
        · have HX := hide (headP_early (len := (s.size : Int)) h3 HTO.out.1 HTO.out.2.1)
          rw [← HH.out] at HX
          have hd : decide ((l.length : Int) < 3) = true := decide_eq_true (by omega)
          clear h3
          go_wp2_with fail
          refine (hSp (72) ((s.size : Int)) _).mono ?_
          rintro x w5 ⟨rfl, hb5⟩
          have hS5 := HHS.out.below hb5
          obtain ⟨ch, fh⟩ := blk_cells hS5.head
          obtain ⟨cp, fp⟩ := blk_cells hS5.spot
          have u0 := ch 0
          have u1 := ch 1
          have p0 := cp 0
          have p1 := cp 1
          obtain ⟨r1, r2, r3⟩ := four_putX hS5.head hS5.spot (.int .u32 0) (.int .u32 0) (.int .i64 (72)) (.int .i64 ((s.size : Int)))
          have HY := hide (hS5.bel.trans r3)
          have HY1 := hide r1
          have HY2 := hide r2
          clear r1 r2 r3 ch cp hS5 hb5 HHS
          go_wp2_with fail
          generalize (((w5.setCell ⟨w.heap.size, 0, none⟩ (.int .u32 0)).setCell ⟨w.heap.size, 1, none⟩ (.int .u32 0)).setCell ⟨w.heap.size + 1, 0, none⟩ (.int .i64 (72))).setCell ⟨w.heap.size + 1, 1, none⟩ (.int .i64 ((s.size : Int))) = X at *
          obtain ⟨e1, _⟩ := blk_cells HY1.out
          obtain ⟨e2, _⟩ := blk_cells HY2.out
          have a0 := e1 0
          have a1 := e1 1
          have b0 := e2 0
          have b1 := e2 1
          refine bodyPost_ret (v := .tuple #[.agg #[.int .u32 0, .int .u32 0], .agg #[.int .i64 (72), .int .i64 ((s.size : Int))]]) ?_ rfl ⟨by rw [HX.out], HY.out⟩
          simp [results, Tryz.results25, go_sem, a0, a1, b0, b1]
        · have h4 := HTO.out.2.2 (by omega)
          have HX := hide (headP_three (len := (s.size : Int)) (by omega) (HTO.out.1 (by omega)) (HTO.out.2.1 (by omega)) h4.1 h4.2)
          rw [if_neg (by omega), ← HH.out] at HX
          have hd : decide ((l.length : Int) < 3) = false := decide_eq_false (by omega)
          have hgen : genAt l l.length = numV (strI (nthT l 1).2.1) := by unfold genAt; rw [if_pos (by omega)]
          have hbn : bndAt l l.length = numV (strI (nthT l 2).2.1) := by unfold bndAt; rw [if_pos (by omega)]
          rw [← hgen, ← hbn] at HX
          generalize genAt l l.length = gg at *
          generalize bndAt l l.length = bb at *
          obtain ⟨ch, fh⟩ := blk_cells HHS.out.head
          obtain ⟨cp, fp⟩ := blk_cells HHS.out.spot
          have u0 := ch 0
          have u1 := ch 1
          have p0 := cp 0
          have p1 := cp 1
          obtain ⟨r1, r2, r3⟩ := four_putX HHS.out.head HHS.out.spot (.int .u32 gg) (.int .u32 bb) (.int .i64 0) (.int .i64 0)
          have HY := hide (HHS.out.bel.trans r3)
          have HY1 := hide r1
          have HY2 := hide r2
          clear r1 r2 r3 ch cp HHS h3 h4 hgen hbn
          go_wp2_with fail
          generalize (((wr.setCell ⟨w.heap.size, 0, none⟩ (.int .u32 gg)).setCell ⟨w.heap.size, 1, none⟩ (.int .u32 bb)).setCell ⟨w.heap.size + 1, 0, none⟩ (.int .i64 0)).setCell ⟨w.heap.size + 1, 1, none⟩ (.int .i64 0) = X at *
          obtain ⟨e1, _⟩ := blk_cells HY1.out
          obtain ⟨e2, _⟩ := blk_cells HY2.out
          have a0 := e1 0
          have a1 := e1 1
          have b0 := e2 0
          have b1 := e2 1
          refine bodyPost_ret (v := .tuple #[.agg #[.int .u32 gg, .int .u32 bb], .agg #[.int .i64 0, .int .i64 0]]) ?_ rfl ⟨by rw [HX.out], HY.out⟩
          simp [results, Tryz.results25, go_sem, a0, a1, b0, b1]
  · have he' : (er != 0) = true := by simp [he]
    rw [if_pos he] at hH
    subst hH
    have hba : Below w1.heap.size w1 (w1.alloc (.cells #[.int .i64 er, .int .i64 at_] 28)) := (Below.refl _ w1).alloc (Nat.le_refl _) _
    have hb1a := hb1.trans (hba.mono hb1.size)
    have kH1 := (hb1a.block _ (by omega)).trans kH
    have kS1 := (hb1a.block _ sS).trans kS
    have kP := heap_alloc_new w1 (.cells #[.int .i64 er, .int .i64 at_] 28)
    obtain ⟨ch, fh⟩ := blk_cells kH1
    obtain ⟨cp, fp⟩ := blk_cells kS1
    obtain ⟨ck, _⟩ := blk_cells kP
    obtain ⟨r1, r2, r3⟩ := four_drew kH1 kS1 (.int .u32 0) (.int .u32 0) (.int .i64 er) (.int .i64 at_)
    have hB1 := hB0.trans (hb1a.mono hB0.size)
    have HY := hide (hB1.trans r3)
    have HY1 := hide r1
    have HY2 := hide r2
    have HU := hide (And.intro (ch 0) (And.intro (ch 1) (And.intro (cp 0) (And.intro (cp 1) (And.intro (ck 0) (ck 1))))))
    have HFF := hide (And.intro fh fp)
    clear r1 r2 r3 ch cp ck kH1 kS1 kP hB1 fh fp hba hb1a hb1 hT hrow hv hfar g3 hIn kH kS hB0
    go_wp2_with fail
    generalize w1.alloc (.cells #[.int .i64 er, .int .i64 at_] 28) = W2 at *
    obtain ⟨u0, u1, p0, p1, v0, v1⟩ := HU.out
    obtain ⟨fh, fp⟩ := HFF.out
    have n1 : w1.heap.size ≠ w.heap.size := by omega
    have n2 : w1.heap.size ≠ w.heap.size + 1 := by omega
    clear HU HFF
    go_region
    generalize ((((W2.setCell ⟨w.heap.size, 0, none⟩ (.int .u32 0)).setCell ⟨w.heap.size, 1, none⟩ (.int .u32 0)).setCell ⟨w.heap.size + 1, 0, none⟩ (.int .i64 er)).setCell ⟨w.heap.size + 1, 1, none⟩ (.int .i64 at_)).drew = X at *
    clear u0 u1 p0 p1 v0 v1 fh fp
    go_wp2
    obtain ⟨e1, _⟩ := blk_cells HY1.out
    obtain ⟨e2, _⟩ := blk_cells HY2.out
    have a0 := e1 0
    have a1 := e1 1
    have b0 := e2 0
    have b1 := e2 1
    refine bodyPost_ret (v := .tuple #[.agg #[.int .u32 0, .int .u32 0], .agg #[.int .i64 er, .int .i64 at_]]) ?_ rfl ⟨rfl, HY.out⟩
    simp [results, Tryz.results25, go_sem, a0, a1, b0, b1]

end Go.Proofs.YtmobologlaeefaaGreat

/-
  What Wrong of the document's answer returns: what is wrong with an argument that stands where a letter is.
-/
namespace Go.Proofs.YtmobologlaeefaaGreat
open Go.RowKit
set_option linter.unusedVariables false
set_option linter.unusedSimpArgs false
set_option maxRecDepth 10000

theorem wrongA_eq (c : Int) (x : ArgT) (b : Int) : wrongA c x b = if mayStandB c x = false then 42 else if x.1 = 1 ∧ noneB x.2.1 b = true then 43 else if x.1 = 4 ∧ enumB c x.2.1 = false then 31 else if nulS x.2.2 then 13 else 0 := by
  unfold wrongA
  by_cases hm : mayStandB c x = false
  · simp [hm]
  · have hk : kindI c = x.1 := by simp [mayStandB] at hm; exact hm.2.1.symm
    unfold faultW
    rw [hk, if_neg hm, if_neg hm]
    by_cases h3 : x.1 = 3
    · simp [h3]
    · have hs : x.2.2 = ByteArray.empty := by simp [mayStandB, h3] at hm; exact hm.2.2
      have hn : nulS x.2.2 = false := by rw [hs]; rfl
      by_cases h1 : x.1 = 1
      · cases hb : noneB x.2.1 b <;> simp [h1, hn]
      · by_cases h4 : x.1 = 4
        · cases hb : enumB c x.2.1 <;> simp [h4, hn]
        · simp [h1, h3, h4, hn]

theorem nul_first {s : ByteArray} {k : Nat} (hk : k < s.size) (h : (s[k].toNat : Int) = 0) : nulS s = true := by
  cases e : nulS s with
  | true => rfl
  | false => exact absurd (by rw [nth_strI s k hk]; exact h) ((nulS_false.1 e) k hk)
theorem nul_not {s : ByteArray} (h : ∀ j, (hj : j < s.size) → (s[j].toNat : Int) ≠ 0) : nulS s = false := nulS_false.2 fun k hk => by rw [nth_strI s k hk]; exact h k hk

end Go.Proofs.YtmobologlaeefaaGreat

/-
  The document's answer for an id and an argument of a line, of layer 7.
-/
namespace Go.Proofs.YtmobologlaeefaaGreat
open Go.RowKit
set_option linter.unusedVariables false
set_option linter.unusedSimpArgs false
set_option maxRecDepth 10000

set_option maxHeartbeats 2000000 in
/-- Of plain digits: what is wrong with them as an id, and the id. -/
theorem refId7_any (s : ByteArray) (b : Int) (w : World) (hp : plainB (strI s) = true) (hs : s.size ≤ 140737488351232) (hb0 : 0 ≤ b) (hb1 : b < 4294967296) :
    Calls Tryz.prog 51 #[.string s, .int .u32 b] w fun e w' => e = .returned (.tuple #[.int .u32 (numV (strI s)), .bool (decide (idP s b = 0))]) ∧ w = w' := by
  obtain ⟨q1, q2⟩ := plain_num hp
  have hB := num_bounds q1
  have hP := refPlain_any s w hs
  have hid : decide (idP s b = 0) = (decide (1 ≤ numV (strI s)) && decide (numV (strI s) < b)) := by
    unfold idP
    rw [if_neg (by rw [q1]; simp)]
    by_cases h : numV (strI s) = 0 ∨ b ≤ numV (strI s)
    · rw [if_pos h]
      rcases h with h | h
      · simp [h]
      · simp; omega
    · rw [if_neg h]
      simp; omega
  rw [hid]
  rw [hp, ← q2] at hP
  clear hid hp q1 q2
  generalize numV (strI s) = z at *
  have hw1 : IntKind.u32.wrap z = z := by rw [IntKind.wrap_u32]; omega
  have hw2 : IntKind.u64.wrap b = b := by rw [IntKind.wrap_u64]; omega
  by_cases h1 : 1 ≤ z
  · have h1' : decide (1 ≤ z) = true := by simpa using h1
    rw [h1', Bool.true_and]
    clear hB h1
    generalize hd : decide (z < b) = d
    go_enter Tryz.func51, Tryz.ntmps51
    go_wp2_with fail
    refine hP.mono ?_
    rintro e w1 ⟨⟨x, rfl, hx0, hx1⟩, rfl⟩
    have hx := hx1 trivial
    obtain ⟨hx3, hx2⟩ := hx
    subst hx3
    clear hP hx0 hx1 hx2
    go_wp2
    refine bodyPost_ret (v := .tuple #[.int .u32 x, .bool d]) ?_ rfl ⟨rfl, rfl⟩
    simp [results, Tryz.results51, go_sem, hd]
  · have h1' : decide (1 ≤ z) = false := by simpa using h1
    rw [h1', Bool.false_and]
    clear hB h1
    go_enter Tryz.func51, Tryz.ntmps51
    go_wp2_with fail
    refine hP.mono ?_
    rintro e w1 ⟨⟨x, rfl, hx0, hx1⟩, rfl⟩
    have hx := hx1 trivial
    obtain ⟨hx3, hx2⟩ := hx
    subst hx3
    clear hP hx0 hx1 hx2
    go_wp2
    refine bodyPost_ret (v := .tuple #[.int .u32 x, .bool false]) ?_ rfl ⟨rfl, rfl⟩
    simp [results, Tryz.results51, go_sem]

def kindW (c : Int) : Int := if c = 105 then 2 else if c = 110 then 3 else if c = 115 then 4 else 1
theorem kindW_take {c : Int} (h : kindI c ≠ 0) : kindW c = takeK c := by
  have := kindI_most c
  unfold kindW takeK
  unfold kindI at *
  by_cases h1 : c = 105
  · simp [h1]
  · by_cases h2 : c = 110
    · simp [h2]
    · by_cases h3 : c = 115
      · simp [h3]
      · rw [if_neg h1, if_neg h2, if_neg h3] at h ⊢
        have h4 : (namesT.find? (isLet c)).isSome = true := by
          cases e : (namesT.find? (isLet c)).isSome with
          | true => rfl
          | false => rw [e] at h; simp at h
        simp [h1, h2, h3, h4]
set_option maxHeartbeats 1000000 in
theorem refKind7_any (c : Int) (w : World) : Calls Tryz.prog 93 #[.int .u8 c] w fun e w' => e = .returned (.int .u8 (kindW c)) ∧ w = w' := by
  by_cases h1 : c = 105
  · subst h1
    go_enter Tryz.func93, Tryz.ntmps93
    go_wp2
    go_ret
    exact ⟨rfl, rfl⟩
  · by_cases h2 : c = 110
    · subst h2
      go_enter Tryz.func93, Tryz.ntmps93
      go_wp2
      go_ret
      exact ⟨rfl, rfl⟩
    · by_cases h3 : c = 115
      · subst h3
        go_enter Tryz.func93, Tryz.ntmps93
        go_wp2
        go_ret
        exact ⟨rfl, rfl⟩
      · have e : kindW c = 1 := by unfold kindW; simp [h1, h2, h3]
        rw [e]
        have h1' : (c == 105) = false := by simpa using h1
        have h2' : (c == 110) = false := by simpa using h2
        have h3' : (c == 115) = false := by simpa using h3
        clear h1 h2 h3 e
        go_enter Tryz.func93, Tryz.ntmps93
        go_wp2
        go_ret
        exact ⟨rfl, rfl⟩

end Go.Proofs.YtmobologlaeefaaGreat
