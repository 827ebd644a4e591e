/-
  Tokens of the document's answer: the tokens of the line in new memory. Nothing that was there turns.
-/
import Derived.WalkSpells
import Derived.WalkMore
import Derived.Test.YteckmcgihbicfabProg
import Derived.Test.YteckmcgihbicfabToksMake
import Derived.Test.YteckmcgihbicfabLexTokens
import Derived.Test.YteckmcgihbicfabRef06Token
namespace Go.Proofs.Yteckmcgihbicfab
open Go.RowKit
set_option maxRecDepth 10000
set_option linter.unusedVariables false
set_option linter.unusedSimpArgs false

theorem tokP_err {l : List Int} {p : Nat} {e : Int} (h : tokP l p = .inl e) : e ≠ 0 := by
  unfold tokP at h
  repeat' split at h
  all_goals first | (cases h; decide) | (cases h; done)
theorem allocOld2 {w : World} {k : Nat} {x : Obj} (h : w.heap[k]? = some x) (o : Obj) : (w.alloc o).heap[k]? = some x := (Below.heap_alloc _ _ _ (Array.getElem?_eq_some_iff.1 h).1).trans h
theorem own_low {w : World} {B B' e size n : Nat} {v : Value} {xs : List Value} (h : w.ownsRow B e size v n xs) (hB : B' ≤ B) : w.ownsRow B' e size v n xs := by
  refine ⟨h.1, ?_⟩
  rcases h.2 with hn | ⟨g, cap, cur, e1, e2, rest⟩
  · exact .inl hn
  · exact .inr ⟨g, cap, cur, e1, Nat.le_trans hB e2, rest⟩

set_option maxHeartbeats 4000000 in
theorem refTokens_any (s : ByteArray) (w : World) (hs : s.size ≤ 16777216) :
    Calls Try.prog 25 #[.string s] w fun e w' => ∃ v, e = .returned (.tuple #[v, .agg #[.int .i64 (toksP (strI s) 0).2.1, .int .i64 (toksP (strI s) 0).2.2]]) ∧ w'.ownsRow w.heap.size 77 3 v (toksP (strI s) 0).1.length ((toksP (strI s) 0).1.flatMap tokC) ∧ Below w.heap.size w w' := by
  obtain ⟨i0, hi, hz0, hz1, hz2⟩ := info_parts TokMake.info
  have HLEN := hid1 (strI_len s)
  have HJ0 : Hid (joinR [] (toksP (strI s) 0) = toksP (strI s) 0) := join_nil _ _
  have HEND : Hid (∀ acc k, ¬ (k < s.size ∧ nth (strI s) k ≠ 59) → joinR acc (toksP (strI s) k) = toksP (strI s) 0 → toksP (strI s) 0 = (acc, 0, 0)) := fun acc k h1 h2 => by
    rw [← h2, toksP_end (by rw [strI_len]; exact h1)]; simp [joinR]
  have HBL : Hid (∀ acc k, k < s.size → blankB (nth (strI s) k) = true → joinR acc (toksP (strI s) k) = toksP (strI s) 0 → joinR acc (toksP (strI s) (k + 1)) = toksP (strI s) 0) := fun acc k h1 h2 h3 => by
    rw [← toksP_blank (by rw [strI_len]; exact h1) h2]; exact h3
  have HER : Hid (∀ acc k e, k < s.size → nth (strI s) k ≠ 59 → blankB (nth (strI s) k) = false → tokP (strI s) k = .inl e → joinR acc (toksP (strI s) k) = toksP (strI s) 0 → toksP (strI s) 0 = ([], e, (k : Int))) := fun acc k e h1 h2 h3 h4 h5 => by
    rw [← h5, toksP_err (by rw [strI_len]; exact h1) h2 h3 h4]; simp [joinR, tokP_err h4]
  have HTK : Hid (∀ acc k kd t q, k < s.size → nth (strI s) k ≠ 59 → blankB (nth (strI s) k) = false → tokP (strI s) k = .inr (kd, t, q) → joinR acc (toksP (strI s) k) = toksP (strI s) 0 → joinR (acc ++ [(kd, strOfNums t, (k : Int))]) (toksP (strI s) q) = toksP (strI s) 0 ∧ k + 1 ≤ q ∧ q ≤ s.size) := fun acc k kd t q h1 h2 h3 h4 h5 => by
    have he := tokP_end (by rw [strI_len]; exact h1) h4
    rw [strI_len] at he
    refine ⟨?_, he.1, he.2⟩
    rw [← join_cons, ← toksP_tok (by rw [strI_len]; exact h1) h2 h3 h4]; exact h5
  have b1 : Below w.heap.size w (w.alloc (.cells #[.int .i64 0, .int .i64 0] 28)) := (Below.refl _ w).alloc (Nat.le_refl _) _
  have k1 : (w.alloc (.cells #[.int .i64 0, .int .i64 0] 28)).heap[w.heap.size]? = some (.cells #[.int .i64 0, .int .i64 0] 28 (0, 0)) := heap_alloc_new w _
  generalize hRR : toksP (strI s) 0 = R at *
  have HOUT : Hid (∀ (W : World), Below w.heap.size w W → W.heap[w.heap.size]? = some (.cells #[.int .i64 0, .int .i64 0] 28 (0, 0)) → ∀ u v, ((W.setCell ⟨w.heap.size, 0, none⟩ (.int .i64 u)).setCell ⟨w.heap.size, 1, none⟩ (.int .i64 v)).cell? ⟨w.heap.size, 0, none⟩ = some (.int .i64 u) ∧ ((W.setCell ⟨w.heap.size, 0, none⟩ (.int .i64 u)).setCell ⟨w.heap.size, 1, none⟩ (.int .i64 v)).cell? ⟨w.heap.size, 1, none⟩ = some (.int .i64 v) ∧ Below w.heap.size w ((W.setCell ⟨w.heap.size, 0, none⟩ (.int .i64 u)).setCell ⟨w.heap.size, 1, none⟩ (.int .i64 v)) ∧ W.cell? ⟨w.heap.size, 0, none⟩ = some (.int .i64 0) ∧ W.cell? ⟨w.heap.size, 1, none⟩ = some (.int .i64 0) ∧ W.frozen? ⟨w.heap.size, 0, none⟩ = false ∧ W.frozen? ⟨w.heap.size, 1, none⟩ = false) := by
    intro W hb hsp u v
    have h := spot_put hsp (.int .i64 u) (.int .i64 v)
    exact ⟨by rw [Lib.cell_of_heap h]; rfl, by rw [Lib.cell_of_heap h]; rfl, (hb.setCell (by simp) _).setCell (by simp) _, by rw [Lib.cell_of_heap hsp]; rfl, by rw [Lib.cell_of_heap hsp]; rfl, Lib.frozen_of_heap hsp 0, Lib.frozen_of_heap hsp 1⟩
  go_enter Try.func25, Try.ntmps25
  go_wp2_with fail
  go_loopw [4, 5] (fun v i wr => ∃ (k : Nat) (acc : List TokT), k ≤ s.size ∧ i = .int .i64 k ∧ acc.length ≤ k ∧ Hid (joinR acc (toksP (strI s) k) = R) ∧ wr.ownsRow (w.heap.size + 1) 77 3 v acc.length (acc.flatMap tokC) ∧ wr.heap[w.heap.size]? = some (.cells #[.int .i64 0, .int .i64 0] 28 (0, 0)) ∧ Below w.heap.size w wr) (fun _ i _ => s.size - (intOf i).toNat)
  case atStart => exact ⟨0, [], Nat.zero_le _, rfl, Nat.le_refl _, by show _ = _; rw [hRR]; exact HJ0.out, World.ownsRow_nil _ _ _ _, k1, b1⟩
  case round =>
    obtain ⟨k, acc, hk, rfl, hal, HI, hrow, hsp, hbel⟩ := hrel
    have hsz := hbel.size
    have hwl : w.heap.size < wr.heap.size := (Array.getElem?_eq_some_iff.1 hsp).1
    clear k1 b1
    by_cases hlt : k < s.size
    · have hki : (k : Int) < (s.size : Int) := by omega
      have nk := nth_strI s k hlt
      obtain ⟨c0, c1⟩ := byte_lo s k hlt
      by_cases h59 : (s[k].toNat : Int) = 59
      · have HO := hid1 (HEND.out acc k (fun h => h.2 (nk.trans h59)) HI.out)
        obtain ⟨e0, e1, hbE, z0, z1, f0, f1⟩ := HOUT.out wr hbel hsp 0 0
        have h59' : ((s[k].toNat : Int) != 59) = false := by simpa using h59
        have HROW := hid1 (own_low (ownsRow_setCell_below (ownsRow_setCell_below hrow (a := ⟨w.heap.size, 0, none⟩) (by simp) (.int .i64 0)) (a := ⟨w.heap.size, 1, none⟩) (by simp) (.int .i64 0)) (Nat.le_succ _))
        have HBE := hid1 hbE
        have E0 := hid1 e0
        have E1 := hid1 e1
        clear HI nk h59 HEND HBL HER HTK hrow hbel hsp HOUT hbE e0 e1 HJ0 hRR
        go_wp2_with fail
        refine bodyPost_ret (v := .tuple #[u4, .agg #[.int .i64 0, .int .i64 0]]) ?_ rfl ⟨u4, by rw [HO.out], by rw [HO.out]; exact HROW.out, HBE.out⟩
        simp only [results, Try.results25]
        simp [go_sem, E0.out, E1.out]
      have h59' : ((s[k].toNat : Int) != 59) = true := by simpa using h59
      have hB := fun wx => refBlank_any (s[k].toNat : Int) wx c0 c1
      cases hbl : blankB (s[k].toNat : Int)
      · have hT := fun wx => refToken_any s k wx hs hlt
        cases htk : tokP (strI s) k with
        | inl er =>
          have hne := tokP_err htk
          have HO := hid1 (HER.out acc k er hlt (by rw [nk]; exact h59) (by rw [nk]; exact hbl) htk HI.out)
          obtain ⟨q1, q2, q3⟩ := tk_bad htk
          rw [q1, q2, q3] at hT
          rw [hbl] at hB
          have hne' : (er != 0) = true := by simpa using hne
          clear hbl htk nk h59 HEND HBL HER HTK HI q1 q2 q3 HJ0 hRR hne
          unfold tokV at hT
          go_wp2_with fail
          refine (hB _).mono ?_
          rintro e w2 ⟨rfl, rfl⟩
          go_wp2_with fail
          refine (hT _).mono ?_
          rintro e w2 ⟨rfl, hb2⟩
          have hsp2 := (hb2.block _ hwl).trans hsp
          have hbel2 := hbel.trans (hb2.mono hsz)
          have hlt2 : w.heap.size < w2.heap.size := Nat.lt_of_lt_of_le hwl hb2.size
          obtain ⟨e0, e1, hbE, z0, z1, f0, f1⟩ := HOUT.out w2 hbel2 hsp2 er k
          have hX : w.heap.size < ((w2.setCell ⟨w.heap.size, 0, none⟩ (.int .i64 er)).setCell ⟨w.heap.size, 1, none⟩ (.int .i64 k)).heap.size := by simpa [World.setCell] using hlt2
          have HBE := hid1 (hbE.alloc hbE.size (.cells #[.int .u8 0, .string ⟨#[]⟩, .int .i64 0] 77))
          have E0 := hid1 ((((Below.refl _ ((w2.setCell ⟨w.heap.size, 0, none⟩ (.int .i64 er)).setCell ⟨w.heap.size, 1, none⟩ (.int .i64 k))).alloc (Nat.le_refl _) (.cells #[.int .u8 0, .string ⟨#[]⟩, .int .i64 0] 77)).cell (p := ⟨w.heap.size, 0, none⟩) hX).trans e0)
          have E1 := hid1 ((((Below.refl _ ((w2.setCell ⟨w.heap.size, 0, none⟩ (.int .i64 er)).setCell ⟨w.heap.size, 1, none⟩ (.int .i64 k))).alloc (Nat.le_refl _) (.cells #[.int .u8 0, .string ⟨#[]⟩, .int .i64 0] 77)).cell (p := ⟨w.heap.size, 1, none⟩) hX).trans e1)
          clear HOUT hbE e0 e1 hsp hbel hrow hb2 hsp2 hbel2 hX
          go_wp2_with fail
          refine bodyPost_ret (v := .tuple #[.slice none 0 0, .agg #[.int .i64 er, .int .i64 k]]) ?_ rfl ⟨_, by rw [HO.out], by rw [HO.out]; exact World.ownsRow_nil _ _ _ _, HBE.out⟩
          simp only [results, Try.results25]
          have E0 := E0.out
          have E1 := E1.out
          generalize ((w2.setCell ⟨w.heap.size, 0, none⟩ (.int .i64 er)).setCell ⟨w.heap.size, 1, none⟩ (.int .i64 k)).alloc (.cells #[.int .u8 0, .string ⟨#[]⟩, .int .i64 0] 77) = WF at *
          simp [go_sem, E0, E1]
        | inr x =>
          obtain ⟨kd, t, q⟩ := x
          obtain ⟨j1, j2, j3⟩ := HTK.out acc k kd t q hlt (by rw [nk]; exact h59) (by rw [nk]; exact hbl) htk HI.out
          have HN := hid1 j1
          obtain ⟨q1, q2, q3⟩ := tk_ok htk
          rw [q1, q2, q3] at hT
          rw [hbl] at hB
          clear hbl htk nk h59 HEND HBL HER HTK HI q1 q2 q3 HJ0 hRR HOUT j1
          unfold tokV at hT
          simp only at hT
          generalize strOfNums t = st at *
          have hqk : (k : Int) + ((q - k : Nat) : Int) = (q : Int) := by omega
          go_wp2_with fail
          refine (hB _).mono ?_
          rintro e w2 ⟨rfl, rfl⟩
          go_wp2_with fail
          refine (hT _).mono ?_
          rintro e w2 ⟨rfl, hb2⟩
          have hsp2 := (hb2.block _ hwl).trans hsp
          have hbel2 := hbel.trans (hb2.mono hsz)
          have hlt2 : w.heap.size < w2.heap.size := Nat.lt_of_lt_of_le hwl hb2.size
          have hrow2 := own_below hrow hb2
          have hsp3 := allocOld2 (allocOld2 hsp2 (.cells #[.int .u8 kd, .string st, .int .i64 k] 77)) (.cells #[.int .u8 kd, .string st, .int .i64 k] 77)
          have hbel3 := (hbel2.alloc hbel2.size (.cells #[.int .u8 kd, .string st, .int .i64 k] 77)).alloc (by have := hbel2.size; simp; omega) (.cells #[.int .u8 kd, .string st, .int .i64 k] 77)
          have hra := World.ownsRow.alloc (World.ownsRow.alloc hrow2 (.cells #[.int .u8 kd, .string st, .int .i64 k] 77)) (.cells #[.int .u8 kd, .string st, .int .i64 k] 77)
          have hnone : ∀ kk, u4.ownBlock = some kk → w.heap.size + 1 ≤ kk := fun kk e => (World.ownsRow.lt hrow2 kk e).1
          clear hsp hbel hrow hb2 hsp2 hbel2 hrow2
          go_wp2_with (at_builtin; refine wpList_append_own _ rfl (.tmp 37) (.tmp 39) 73 rfl (w.heap.size + 1) 77 i0 (.agg #[.int .u8 0, .string ⟨#[]⟩, .int .i64 0]) 3 32 Try.underlying73 hi hz0 hz1 hz2 rfl (by decide) _ acc.length (acc.flatMap tokC) rfl hra ⟨w2.heap.size + 1, 0, none⟩ 1 1 [.int .u8 kd, .string st, .int .i64 k] rfl rfl ?c1 ?c2 ?c3 ?c4 ?c5 ?_)
          case c1 =>
            intro j u hj
            match j, hj with
            | 0, hj => simp at hj; subst hj; simp [Addr.add]
            | 1, hj => simp at hj; subst hj; simp [Addr.add]
            | 2, hj => simp at hj; subst hj; simp [Addr.add]
          case c2 => intro u hu; simp at hu; rcases hu with rfl | rfl | rfl <;> rfl
          case c3 => unfold maxLen; omega
          case c4 => omega
          case c5 => simp; omega
          intro v2 w3 hown3 hgr3 _
          have hsp4 := (hgr3.block w.heap.size (by simp; omega) (fun e => by have := hnone _ e.symm; omega)).trans hsp3
          have hb4 : Below w.heap.size w w3 := hbel3.grown hgr3 (by simp; omega) (fun kk e => by have := hnone kk e; omega)
          have hrow4 : w3.ownsRow (w.heap.size + 1) 77 3 v2 (acc ++ [(kd, st, (k : Int))]).length ((acc ++ [(kd, st, (k : Int))]).flatMap tokC) := by
            rw [flatT_push, List.length_append]; exact hown3
          clear hown3 hgr3 hra hsp3 hbel3
          go_wp2_with fail
          go_roundw
          case rel => exact ⟨q, acc ++ [(kd, st, (k : Int))], j3, by first | rfl | (rw [hqk]) | go_num, by simp; omega, HN, hrow4, hsp4, hb4⟩
          case measure => simp [intOf]; omega
      · have HN := hid1 (HBL.out acc k hlt (by rw [nk]; exact hbl) HI.out)
        rw [hbl] at hB
        clear hbl nk h59 HEND HBL HER HTK HI HJ0 hRR HOUT
        go_wp2_with fail
        refine (hB _).mono ?_
        rintro e w2 ⟨rfl, rfl⟩
        go_wp2_with fail
        go_roundw
        case rel => exact ⟨k + 1, acc, by omega, by go_num, by omega, HN, hrow, hsp, hbel⟩
        case measure => simp [intOf]; omega
    · obtain rfl : k = s.size := by omega
      have HO := hid1 (HEND.out acc s.size (fun h => by omega) HI.out)
      obtain ⟨e0, e1, hbE, z0, z1, f0, f1⟩ := HOUT.out wr hbel hsp 0 0
      have HROW := hid1 (own_low (ownsRow_setCell_below (ownsRow_setCell_below hrow (a := ⟨w.heap.size, 0, none⟩) (by simp) (.int .i64 0)) (a := ⟨w.heap.size, 1, none⟩) (by simp) (.int .i64 0)) (Nat.le_succ _))
      have HBE := hid1 hbE
      have E0 := hid1 e0
      have E1 := hid1 e1
      clear HI HEND HBL HER HTK hrow hbel hsp HOUT hbE e0 e1 HJ0 hRR
      go_wp2_with fail
      refine bodyPost_ret (v := .tuple #[u4, .agg #[.int .i64 0, .int .i64 0]]) ?_ rfl ⟨u4, by rw [HO.out], by rw [HO.out]; exact HROW.out, HBE.out⟩
      simp only [results, Try.results25]
      simp [go_sem, E0.out, E1.out]

end Go.Proofs.Yteckmcgihbicfab
