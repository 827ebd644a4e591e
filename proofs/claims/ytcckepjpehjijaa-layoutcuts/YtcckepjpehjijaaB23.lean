/-
  Texts laid together in one: Law05Same, KitSpoilInts, Law05Spoil, KitCopyInst, KitCopyInstO, KitCopyModule.
-/
import Derived.WalkSpells
import Derived.Deep.QuietTactic
import Derived.BigQuiet
import Derived.Test.YtcckepjpehjijaaProg
import Derived.Test.YtcckepjpehjijaaB20
import Derived.Test.YtcckepjpehjijaaB22
import Derived.Test.YtcckepjpehjijaaB04
import Derived.Test.YtcckepjpehjijaaB07
import Derived.Test.YtcckepjpehjijaaB01
import Derived.BigRegion
import Derived.Deep.RegionWith
import Derived.Deep.DrawnRows
import Derived.Test.YtcckepjpehjijaaB12
/-
  The law's sameFuncs answers true of the same functions.
-/
namespace Go.Proofs.Ytcckepjpehjijaa
open Go.RowKit
set_option linter.unusedVariables false
set_option linter.unusedSimpArgs false
set_option maxRecDepth 10000

/-- Functions that can be read. -/
def FuncsR (w : World) (v : Value) (fs : List FuncT) : Prop :=
  ∃ x c, v = .slice x fs.length c ∧ ∀ j, j < fs.length → ∃ F xp cp xq cq, x = some ⟨F, 0, none⟩ ∧ F < w.heap.size ∧
      w.cell? ⟨F, j * 5, none⟩ = some (.int .u32 (nthF fs j).1) ∧ w.cell? ⟨F, j * 5 + 1, none⟩ = some (.int .i64 (nthF fs j).2.1) ∧ w.cell? ⟨F, j * 5 + 2, none⟩ = some (.slice xp (nthF fs j).2.2.1.length cp) ∧ w.cell? ⟨F, j * 5 + 3, none⟩ = some (.slice xq (nthF fs j).2.2.2.1.length cq) ∧ w.cell? ⟨F, j * 5 + 4, none⟩ = some (.int .i64 (nthF fs j).2.2.2.2) ∧
      View .i64 w xp (nthF fs j).2.2.1 ∧
      ∀ k, k < (nthF fs j).2.2.2.1.length → ∃ G, xq = some ⟨G, 0, none⟩ ∧ G < w.heap.size ∧ w.cell? ⟨G, k * 3, none⟩ = some (.int .u32 (nthB (nthF fs j).2.2.2.1 k).1) ∧ w.cell? ⟨G, k * 3 + 1, none⟩ = some (.int .i64 (nthB (nthF fs j).2.2.2.1 k).2.1) ∧ w.cell? ⟨G, k * 3 + 2, none⟩ = some (.int .i64 (nthB (nthF fs j).2.2.2.1 k).2.2)
theorem FuncsAt.readV {w : World} {lo : Nat} {fv : Value} {fs : List FuncT} (h : FuncsAt w lo fv fs) : FuncsR w fv fs := by
  obtain ⟨V, hV⟩ := h
  have htop := hV.own none trivial
  obtain ⟨x, c, hx⟩ := own_len htop
  simp only [rowF] at hx
  refine ⟨x, c, hx, fun j hj => ?_⟩
  obtain ⟨F, c1, e, h1, h2, h3, h4, h5⟩ := own_form htop (show 0 < fs.length by omega)
  simp only [rowF] at e h5
  have hp := hV.own (some (false, j)) hj
  have hq := hV.own (some (true, j)) hj
  obtain ⟨xp, cp, hxp⟩ := own_len hp
  obtain ⟨xq, cq, hxq⟩ := own_len hq
  simp only [rowF] at hxp hxq
  have hc : ∀ i, i < 5 → w.cell? ⟨F, j * 5 + i, none⟩ = (fC (nthF fs j) (V false j) (V true j))[i]? := fun i hi => by
    rw [h5 _ (by have := hj; omega), cellsF_get fs V _ j i hj hi]
  rw [hxp, hxq] at hc
  rw [hx] at e
  injection e with e _ _
  simp only [rowF, RowX.own] at hp
  rw [hxp] at hp
  refine ⟨F, xp, cp, xq, cq, e, h2, hc 0 (by omega), hc 1 (by omega), hc 2 (by omega), hc 3 (by omega), hc 4 (by omega), View.ofOwn hp rfl, fun k hk => ?_⟩
  obtain ⟨G, c2, e2, k1, k2, k3, k4, k5⟩ := own_form hq (show 0 < _ by exact Nat.lt_of_le_of_lt (Nat.zero_le k) hk)
  simp only [rowF] at e2 k5
  rw [hxq] at e2
  injection e2 with e2 _ _
  have hc2 : ∀ i, i < 3 → w.cell? ⟨G, k * 3 + i, none⟩ = (bC (nthB (nthF fs j).2.2.2.1 k))[i]? := fun i hi => by
    rw [k5 _ (by have := hk; omega), bC_get _ k i hk hi]
  exact ⟨G, e2, k2, hc2 0 (by omega), hc2 1 (by omega), hc2 2 (by omega)⟩
theorem FuncsR.nil (w : World) : FuncsR w (.slice none 0 0) [] := ⟨none, 0, rfl, fun j hj => absurd hj (Nat.not_lt_zero j)⟩
theorem FuncsR.below {w w' : World} {v : Value} {fs : List FuncT} (h : FuncsR w v fs) (hb : Below w.heap.size w w') : FuncsR w' v fs := by
  obtain ⟨x, c, hx, h⟩ := h
  refine ⟨x, c, hx, fun j hj => ?_⟩
  obtain ⟨F, xp, cp, xq, cq, e, h2, q0, q1, q2, q3, q4, hv, hk⟩ := h j hj
  refine ⟨F, xp, cp, xq, cq, e, Nat.lt_of_lt_of_le h2 hb.size, (hb.cell (p := ⟨F, j * 5, none⟩) h2).trans q0, (hb.cell (p := ⟨F, j * 5 + 1, none⟩) h2).trans q1, (hb.cell (p := ⟨F, j * 5 + 2, none⟩) h2).trans q2, (hb.cell (p := ⟨F, j * 5 + 3, none⟩) h2).trans q3, (hb.cell (p := ⟨F, j * 5 + 4, none⟩) h2).trans q4, hv.below hb, fun k hkk => ?_⟩
  obtain ⟨G, e2, k2, t0, t1, t2⟩ := hk k hkk
  exact ⟨G, e2, Nat.lt_of_lt_of_le k2 hb.size, (hb.cell (p := ⟨G, k * 3, none⟩) k2).trans t0, (hb.cell (p := ⟨G, k * 3 + 1, none⟩) k2).trans t1, (hb.cell (p := ⟨G, k * 3 + 2, none⟩) k2).trans t2⟩
/-- Few functions, parameters and blocks. -/
def FewF (fs : List FuncT) : Prop := fs.length ≤ 1048576 ∧ ∀ j, (nthF fs j).2.2.1.length ≤ 1048576 ∧ (nthF fs j).2.2.2.1.length ≤ 1048576

set_option maxHeartbeats 16000000 in
theorem sameFuncs_true (va vb : Value) (fs : List FuncT) (w : World) (ha : FuncsR w va fs) (hb : FuncsR w vb fs) (hf : FewF fs) :
    Calls Try.prog 10 #[va, vb] w fun e w' => e = .returned (.bool true) ∧ Below w.heap.size w w' := by
  have HA := hide ha
  have HB := hide hb
  obtain ⟨xa, ca, rfl, _⟩ := ha
  obtain ⟨xb, cb, rfl, _⟩ := hb
  have HFW := hide hf
  have hfl := hf.1
  clear hf
  generalize hm : fs.length = m at *
  have HM := hide hm
  clear hm
  go_enter Try.func10, Try.ntmps10
  go_wp2_with fail
  go_loopw [5] (fun i wr => ∃ j : Nat, j ≤ m ∧ i = .int .i64 j ∧ Below w.heap.size w wr) (fun i _ => m - (intOf i).toNat)
  case atStart => exact ⟨0, Nat.zero_le _, rfl, Below.refl _ _⟩
  case round =>
    obtain ⟨j, hj, rfl, hbr⟩ := hrel
    rename World => wo
    have HBR := hide hbr
    by_cases hlt : j < m
    · have HLT := hide hlt
      obtain ⟨_, _, e1, hA⟩ := HA.out.below hbr
      obtain ⟨_, _, e2, hB⟩ := HB.out.below hbr
      injection e1 with e1 _ _
      injection e2 with e2 _ _
      obtain ⟨F, xp, cp, xq, cq, hx, hF, q0, q1, q2, q3, q4, hvp, hbk⟩ := hA j (by rw [HM.out]; exact hlt)
      obtain ⟨F', xp', cp', xq', cq', hx', hF', q0', q1', q2', q3', q4', hvp', hbk'⟩ := hB j (by rw [HM.out]; exact hlt)
      rw [← e1] at hx
      rw [← e2] at hx'
      subst hx hx'
      have hfp := (HFW.out.2 j).1
      have hfb := (HFW.out.2 j).2
      clear e1 e2 hA hB
      generalize nthF fs j = fn at *
      obtain ⟨fid, fat, fps, fbs, fen⟩ := fn
      simp only at *
      have HBK := hide hbk
      have HBK' := hide hbk'
      have hj0 : (0 : Int) ≤ (j : Int) := by omega
      have hji : (j : Int) < (m : Int) := by omega
      have f0 := fun s : InC (Below wo.heap.size wo) => s.cell (p := ⟨F, j * 5, none⟩) hF q0
      have f1 := fun s : InC (Below wo.heap.size wo) => s.cell (p := ⟨F, j * 5 + 1, none⟩) hF q1
      have f2 := fun s : InC (Below wo.heap.size wo) => s.cell (p := ⟨F, j * 5 + 2, none⟩) hF q2
      have f3 := fun s : InC (Below wo.heap.size wo) => s.cell (p := ⟨F, j * 5 + 3, none⟩) hF q3
      have f4 := fun s : InC (Below wo.heap.size wo) => s.cell (p := ⟨F, j * 5 + 4, none⟩) hF q4
      have g0 := fun s : InC (Below wo.heap.size wo) => s.cell (p := ⟨F', j * 5, none⟩) hF' q0'
      have g1 := fun s : InC (Below wo.heap.size wo) => s.cell (p := ⟨F', j * 5 + 1, none⟩) hF' q1'
      have g2 := fun s : InC (Below wo.heap.size wo) => s.cell (p := ⟨F', j * 5 + 2, none⟩) hF' q2'
      have g3 := fun s : InC (Below wo.heap.size wo) => s.cell (p := ⟨F', j * 5 + 3, none⟩) hF' q3'
      have g4 := fun s : InC (Below wo.heap.size wo) => s.cell (p := ⟨F', j * 5 + 4, none⟩) hF' q4'
      have hI := fun s : InC (Below wo.heap.size wo) => Calls.inC_drew s (ints_true xp xp' fps.length cp cp' fps s.w (hvp.below s.ok) (hvp'.below s.ok) rfl (by omega))
      have hne : Nonempty (InC (Below wo.heap.size wo)) := ⟨⟨wo, Below.refl _ _⟩⟩
      have HQ3 := hide q3
      have HQ3' := hide q3'
      generalize hpl : fps.length = pl at *
      generalize hbl : fbs.length = bl at *
      clear q0 q1 q2 q3 q4 q0' q1' q2' q3' q4' hvp hvp' hbk hbk' hbr hpl
      have HBL := hide hbl
      clear hbl
      go_wp2_with fail
      refine wp_norm ?_
      refine wp_region_class (C := Below wo.heap.size wo) (by kernel_rfl) (by kernel_rfl) (below_drew wo) ?_
      simp only [List.append_eq, List.cons_append, List.nil_append]
      repeat (go_big_quiet_step ((go_at_call 22; exact hI _)))
      refine wpQuiet_nil ?_
      rintro _ ⟨sv, rfl⟩
      have HVW := hide sv.ok
      clear hne f0 f1 f2 f3 f4 g0 g1 g2 g3 g4 hI
      generalize sv.w = V at *
      rw [onNormal_normal]
      go_wp2_with fail
      go_loopw [6] (fun i wr => ∃ k : Nat, k ≤ bl ∧ i = .int .i64 k ∧ Below wo.heap.size wo wr) (fun i _ => bl - (intOf i).toNat)
      case atStart => exact ⟨0, Nat.zero_le _, rfl, HVW.out⟩
      case round =>
        obtain ⟨k, hk, rfl, hbq⟩ := hrel
        have HBQ := hide hbq
        have c3 := (hbq.cell (p := ⟨F, j * 5 + 3, none⟩) hF).trans HQ3.out
        have c3' := (hbq.cell (p := ⟨F', j * 5 + 3, none⟩) hF').trans HQ3'.out
        have hFr : F < wr.heap.size := Nat.lt_of_lt_of_le hF hbq.size
        have hFr' : F' < wr.heap.size := Nat.lt_of_lt_of_le hF' hbq.size
        by_cases hlt2 : k < bl
        · have HLT2 := hide hlt2
          obtain ⟨G, hx, hG, t0, t1, t2⟩ := HBK.out k hlt2
          obtain ⟨G', hx', hG', t0', t1', t2'⟩ := HBK'.out k hlt2
          have hk0 : (0 : Int) ≤ (k : Int) := by omega
          have hki : (k : Int) < (bl : Int) := by omega
          replace t0 := (hbq.cell (p := ⟨G, k * 3, none⟩) hG).trans t0
          replace t1 := (hbq.cell (p := ⟨G, k * 3 + 1, none⟩) hG).trans t1
          replace t2 := (hbq.cell (p := ⟨G, k * 3 + 2, none⟩) hG).trans t2
          replace t0' := (hbq.cell (p := ⟨G', k * 3, none⟩) hG').trans t0'
          replace t1' := (hbq.cell (p := ⟨G', k * 3 + 1, none⟩) hG').trans t1'
          replace t2' := (hbq.cell (p := ⟨G', k * 3 + 2, none⟩) hG').trans t2'
          subst hx hx'
          clear hbq
          generalize nthB fbs k = bn at *
          obtain ⟨bid, bfr, bto⟩ := bn
          simp only at *
          go_wp2_with fail
          go_quiet (fail)
          have hdr : Below wr.heap.size wr (wr.drewN nq) := ⟨rfl, rfl, rfl, Nat.le_refl _, fun _ _ => rfl⟩
          have HB9 := hide (HBQ.out.trans (hdr.mono HBQ.out.size))
          clear t0 t1 t2 t0' t1' t2' c3 c3' hdr
          go_wp2_with fail
          go_roundw
          case rel => exact ⟨k + 1, by omega, by go_num, HB9.out⟩
          case measure => simp [intOf]; omega
        · obtain rfl : k = bl := by omega
          have HB9 := hide (HBR.out.trans (HBQ.out.mono HBR.out.size))
          clear hbq
          go_wp2_with fail
          go_roundw
          case rel => exact ⟨j + 1, by omega, by go_num, HB9.out⟩
          case measure => simp [intOf]; omega
    · obtain rfl : j = m := by omega
      clear hbr
      go_wp2_with fail
      go_ret
      exact ⟨rfl, HBR.out⟩

end Go.Proofs.Ytcckepjpehjijaa

/-
  SpoilInts of the kit writes over the numbers of a row of the call's own, and nothing else.
-/
namespace Go.Proofs.Ytcckepjpehjijaa
open Go.RowKit
set_option maxRecDepth 10000

theorem spoilI_nil (a : Option Addr) (cap : Nat) (w : World) :
    Calls Try.prog 11 #[.slice a 0 cap] w fun e w' => e = .returned (.tuple #[]) ∧ w = w' := by
  go_enter Try.func11, Try.ntmps11
  go_wp2
  refine wp_loop_rounds 1 ?_
  rw [rounds_succ]
  go_wp2
  go_end0
  exact ⟨rfl, rfl⟩

set_option maxHeartbeats 400000 in
theorem spoilI_keep (g n cap B : Nat) (zs : List Int) (w : World) (hown : w.ownsRow B 3 1 (.slice (some ⟨g, 0, none⟩) n cap) n (zs.map (Value.int .i64))) (hl : zs.length = n) (hn : 8 * n ≤ 140737488351232) :
    Calls Try.prog 11 #[.slice (some ⟨g, 0, none⟩) n cap] w fun e w' => e = .returned (.tuple #[]) ∧ w.grownBy w' (some g) ∧ ∃ cs : List Int, cs.length = n ∧ w'.ownsRow B 3 1 (.slice (some ⟨g, 0, none⟩) n cap) n (cs.map (Value.int .i64)) := by
  go_enter Try.func11, Try.ntmps11
  go_wp2
  go_loopw [2] (fun i wr => ∃ (k : Nat) (cs : List Int), k ≤ n ∧ i = .int .i64 k ∧ cs.length = n ∧ wr.ownsRow B 3 1 (.slice (some ⟨g, 0, none⟩) n cap) n (cs.map (Value.int .i64)) ∧ w.grownBy wr (some g))
    (fun i _ => n - (intOf i).toNat)
  case atStart => exact ⟨0, zs, Nat.zero_le _, rfl, hl, hown, World.grownBy.refl _ _⟩
  case round =>
    obtain ⟨k, cs, hk, rfl, hcl, hownr, hgr⟩ := hrel
    have HCL : Hid (cs.length = n) := hcl
    clear hcl hown hl
    by_cases hlt : k < n
    · have hd : wr.cell? ⟨g, k, none⟩ = some (.int .i64 (nth cs k)) := by
        obtain ⟨b, off, e1, _, hc⟩ := View.ofRow hownr HCL.out k (by rw [HCL.out]; exact hlt)
        simp at e1
        obtain ⟨rfl, rfl⟩ := e1
        rw [Nat.zero_add] at hc
        exact hc
      have hf : wr.frozen? ⟨g, k, none⟩ = false := hownr.frozenAt _
      have hs := hownr.stored k (.int .i64 (-7777))
      rw [← List.map_set] at hs
      obtain ⟨hs1, hs2⟩ := hs
      generalize nth cs k = x at hd
      clear hownr
      go_wp2
      go_roundw
      case rel => exact ⟨k + 1, cs.set k (-7777), by omega, by go_num, by rw [List.length_set]; exact HCL.out, hs1, hgr.trans hs2⟩
      case measure => simp [intOf]; omega
    · go_wp2
      go_end0
      exact ⟨rfl, hgr, cs, HCL.out, hownr⟩

theorem spoilI_some (g n cap B : Nat) (zs : List Int) (w : World) (hown : w.ownsRow B 3 1 (.slice (some ⟨g, 0, none⟩) n cap) n (zs.map (Value.int .i64))) (hl : zs.length = n) (hn : 8 * n ≤ 140737488351232) :
    Calls Try.prog 11 #[.slice (some ⟨g, 0, none⟩) n cap] w fun e w' => e = .returned (.tuple #[]) ∧ w.grownBy w' (some g) :=
  (spoilI_keep g n cap B zs w hown hl hn).mono fun _ _ h => ⟨h.1, h.2.1⟩

/-- Of any row of the call's own. -/
theorem spoilI_own (v : Value) (n B : Nat) (zs : List Int) (w : World) (hown : w.ownsRow B 3 1 v n (zs.map (Value.int .i64))) (hl : zs.length = n) (hn : 8 * n ≤ 140737488351232) :
    Calls Try.prog 11 #[v] w fun e w' => e = .returned (.tuple #[]) ∧ w.grownBy w' v.ownBlock ∧ ∃ cs : List Int, cs.length = n ∧ w'.ownsRow B 3 1 v n (cs.map (Value.int .i64)) := by
  have hown0 := hown
  rcases hown0.2 with ⟨rfl, rfl⟩ | ⟨g, c, cur, rfl, _⟩
  · refine (spoilI_nil none 0 w).mono ?_
    rintro e w' ⟨he, rfl⟩
    exact ⟨he, World.grownBy.refl _ _, zs, hl, hown⟩
  · exact (spoilI_keep g n c B zs w hown hl hn).mono fun _ _ h => h

end Go.Proofs.Ytcckepjpehjijaa

/-
  Functions whose parameters and blocks are written over one by one: each row stays where it is, with other contents.
-/
namespace Go.Proofs.Ytcckepjpehjijaa
open Go.RowKit
set_option linter.unusedVariables false
set_option linter.unusedSimpArgs false

theorem own_keep5 {w w' : World} {B e size n : Nat} {v : Value} {xs : List Value} (h : w.ownsRow B e size v n xs) (hk : ∀ k, B ≤ k → k < w.heap.size → w'.heap[k]? = w.heap[k]?) : w'.ownsRow B e size v n xs := by
  refine ⟨h.1, ?_⟩
  rcases h.2 with hn | ⟨g, cap, cur, rfl, hg, hgg, rest⟩
  · exact .inl hn
  · exact .inr ⟨g, cap, cur, rfl, hg, (hk g hg (Array.getElem?_eq_some_iff.1 hgg).1).trans hgg, rest⟩
theorem RowsX.keep5 {ι : Type} {w w' : World} {lo : Nat} {In : ι → Prop} {R : ι → RowX} (h : RowsX w lo In R) (hk : ∀ k, lo ≤ k → k < w.heap.size → w'.heap[k]? = w.heap[k]?) : RowsX w' lo In R :=
  ⟨fun q hq => own_keep5 (h.own q hq) hk, h.apart⟩
theorem FuncsAt.keep5 {w w' : World} {lo : Nat} {fv : Value} {fs : List FuncT} (h : FuncsAt w lo fv fs) (hk : ∀ k, lo ≤ k → k < w.heap.size → w'.heap[k]? = w.heap[k]?) : FuncsAt w' lo fv fs := by
  obtain ⟨V, hV⟩ := h; exact ⟨V, hV.keep5 hk⟩
theorem below_keep5 {w0 w w' : World} {lo : Nat} {ob : Option Nat} (h : Below w0.heap.size w0 w) (hlo : w0.heap.size ≤ lo) (hg : w.grownBy w' ob) (hob : ∀ g, ob = some g → lo ≤ g) : Below w0.heap.size w0 w' :=
  ⟨hg.os.trans h.os, hg.tape.trans h.tape, hg.output.trans h.output, Nat.le_trans h.size hg.size, fun k hk => (hg.block k (Nat.lt_of_lt_of_le hk h.size) (fun e => by have := hob k e.symm; omega)).trans (h.block k hk)⟩
/-- Functions in memory, whatever their parameters and blocks hold. -/
def SpR (w : World) (lo : Nat) (fv : Value) (fs : List FuncT) (V : Bool → Nat → Value) : Prop :=
  ∃ R, RowsX w lo (inF fs) R ∧ R none = rowF fv fs V none ∧ ∀ j, j < fs.length → (∃ zs : List Int, zs.length = (nthF fs j).2.2.1.length ∧ R (some (false, j)) = ⟨3, 1, V false j, (nthF fs j).2.2.1.length, zs.map (Value.int .i64)⟩) ∧ (∃ xs : List Value, R (some (true, j)) = ⟨41, 3, V true j, (nthF fs j).2.2.2.1.length, xs⟩)
theorem SpR.start {w : World} {lo : Nat} {fv : Value} {fs : List FuncT} {V : Bool → Nat → Value} (h : RowsX w lo (inF fs) (rowF fv fs V)) : SpR w lo fv fs V :=
  ⟨_, h, rfl, fun j hj => ⟨⟨_, rfl, rfl⟩, _, rfl⟩⟩
theorem SpR.keep {w w' : World} {lo : Nat} {fv : Value} {fs : List FuncT} {V : Bool → Nat → Value} (h : SpR w lo fv fs V) (hk : ∀ k, lo ≤ k → k < w.heap.size → w'.heap[k]? = w.heap[k]?) : SpR w' lo fv fs V := by
  obtain ⟨R, h1, h2, h3⟩ := h; exact ⟨R, h1.keep5 hk, h2, h3⟩
theorem SpR.read {w : World} {lo : Nat} {fv : Value} {fs : List FuncT} {V : Bool → Nat → Value} (h : SpR w lo fv fs V) {j : Nat} (hj : j < fs.length) : ∃ F c, fv = .slice (some ⟨F, 0, none⟩) fs.length c ∧ F < w.heap.size ∧ lo ≤ F ∧ w.cell? ⟨F, j * 5 + 2, none⟩ = some (V false j) ∧ w.cell? ⟨F, j * 5 + 3, none⟩ = some (V true j) := by
  obtain ⟨R, h1, h2, h3⟩ := h
  have htop := h1.own none trivial
  rw [h2] at htop
  obtain ⟨F, c, e, k1, k2, k3, k4, k5⟩ := own_form htop (show 0 < fs.length by omega)
  simp only [rowF] at e k5
  refine ⟨F, c, e, k2, k1, ?_, ?_⟩
  · rw [k5 _ (by omega), cellsF_get fs V _ j 2 hj (by omega)]; rfl
  · rw [k5 _ (by omega), cellsF_get fs V _ j 3 hj (by omega)]; rfl
theorem SpR.rows {w : World} {lo : Nat} {fv : Value} {fs : List FuncT} {V : Bool → Nat → Value} (h : SpR w lo fv fs V) {j : Nat} (hj : j < fs.length) :
    (∃ zs : List Int, zs.length = (nthF fs j).2.2.1.length ∧ w.ownsRow lo 3 1 (V false j) (nthF fs j).2.2.1.length (zs.map (Value.int .i64))) ∧ (∃ xs : List Value, w.ownsRow lo 41 3 (V true j) (nthF fs j).2.2.2.1.length xs) := by
  obtain ⟨R, h1, h2, h3⟩ := h
  obtain ⟨⟨zs, hz, e1⟩, xs, e2⟩ := h3 j hj
  have k1 := h1.own (some (false, j)) hj
  have k2 := h1.own (some (true, j)) hj
  unfold RowX.own at k1 k2
  rw [e1] at k1
  rw [e2] at k2
  exact ⟨⟨zs, hz, k1⟩, xs, k2⟩
theorem SpR.putP {w w' : World} {lo : Nat} {fv : Value} {fs : List FuncT} {V : Bool → Nat → Value} (h : SpR w lo fv fs V) {j : Nat} (hj : j < fs.length) (hg : w.grownBy w' (V false j).ownBlock) {zs : List Int} (hz : zs.length = (nthF fs j).2.2.1.length) (how : w'.ownsRow lo 3 1 (V false j) (nthF fs j).2.2.1.length (zs.map (Value.int .i64))) : SpR w' lo fv fs V := by
  obtain ⟨R, h1, h2, h3⟩ := h
  obtain ⟨⟨zs0, hz0, e1⟩, xs0, e2⟩ := h3 j hj
  refine ⟨fun q => if q = some (false, j) then ⟨3, 1, V false j, (nthF fs j).2.2.1.length, zs.map (Value.int .i64)⟩ else R q, h1.put (some (false, j)) hj (by rw [e1]; exact hg) (by rw [if_pos rfl]; exact how) (by rw [if_pos rfl, e1]; exact .inl rfl) (fun q hq hne => if_neg hne), (if_neg (by simp)).trans h2, fun i hi => ?_⟩
  by_cases e : i = j
  · subst e
    exact ⟨⟨zs, hz, if_pos rfl⟩, by obtain ⟨xs, hx⟩ := (h3 i hi).2; exact ⟨xs, (if_neg (by simp)).trans hx⟩⟩
  · obtain ⟨⟨z1, z2, z3⟩, x1, x2⟩ := h3 i hi
    exact ⟨⟨z1, z2, (if_neg (by simpa using e)).trans z3⟩, x1, (if_neg (by simp)).trans x2⟩
theorem SpR.putQ {w w' : World} {lo : Nat} {fv : Value} {fs : List FuncT} {V : Bool → Nat → Value} (h : SpR w lo fv fs V) {j : Nat} (hj : j < fs.length) (hg : w.grownBy w' (V true j).ownBlock) {xs : List Value} (how : w'.ownsRow lo 41 3 (V true j) (nthF fs j).2.2.2.1.length xs) : SpR w' lo fv fs V := by
  obtain ⟨R, h1, h2, h3⟩ := h
  obtain ⟨⟨zs0, hz0, e1⟩, xs0, e2⟩ := h3 j hj
  refine ⟨fun q => if q = some (true, j) then ⟨41, 3, V true j, (nthF fs j).2.2.2.1.length, xs⟩ else R q, h1.put (some (true, j)) hj (by rw [e2]; exact hg) (by rw [if_pos rfl]; exact how) (by rw [if_pos rfl, e2]; exact .inl rfl) (fun q hq hne => if_neg hne), (if_neg (by simp)).trans h2, fun i hi => ?_⟩
  by_cases e : i = j
  · subst e
    obtain ⟨z1, z2, z3⟩ := (h3 i hi).1
    exact ⟨⟨z1, z2, (if_neg (by simp)).trans z3⟩, xs, if_pos rfl⟩
  · obtain ⟨⟨z1, z2, z3⟩, x1, x2⟩ := h3 i hi
    exact ⟨⟨z1, z2, (if_neg (by simp)).trans z3⟩, x1, (if_neg (by simpa using e)).trans x2⟩
end Go.Proofs.Ytcckepjpehjijaa

/-
  CopyInst of the kit answers the instruction in new memory.
-/
namespace Go.Proofs.Ytcckepjpehjijaa
open Go.RowKit

theorem CopyInst.info : (Try.prog.info? 54).map (fun i => (i.zero, i.size, i.bytes)) = some (some (.agg #[.int .u8 0, .int .u32 0, .string ⟨#[]⟩]), 3, 24) := by kernel_rfl

/-- The first k arguments lie in the row at g. -/
structure PartA (w : World) (g n k : Nat) (l : List ArgT) : Prop where
  row : ∃ cs : Array Value, w.heap[g]? = some (.cells cs 54 (0, 0)) ∧ cs.size = n * 3
  each : ∀ j, j < k → w.cell? ⟨g, j * 3, none⟩ = some (.int .u8 (nthA l j).1) ∧ w.cell? ⟨g, j * 3 + 1, none⟩ = some (.int .u32 (nthA l j).2.1) ∧ w.cell? ⟨g, j * 3 + 2, none⟩ = some (.string (nthA l j).2.2)

theorem cells_can {w : World} {g T : Nat} {cs : Array Value} (h : w.heap[g]? = some (.cells cs T (0, 0))) (j : Nat) (hj : j < cs.size) : (∃ v, w.cell? ⟨g, j, none⟩ = some v) ∧ w.frozen? ⟨g, j, none⟩ = false := by
  refine ⟨⟨cs[j], by simp [World.cell?, h, hj]⟩, by simp [World.frozen?, h]⟩

theorem PartA.store {w : World} {g n k : Nat} {l : List ArgT} (h : PartA w g n k l) (hk : k < n) :
    PartA (((w.setCell ⟨g, k * 3, none⟩ (.int .u8 (nthA l k).1)).setCell ⟨g, k * 3 + 1, none⟩ (.int .u32 (nthA l k).2.1)).setCell ⟨g, k * 3 + 2, none⟩ (.string (nthA l k).2.2)) g n (k + 1) l := by
  obtain ⟨⟨cs, h1, h2⟩, h3⟩ := h
  obtain ⟨W, hW⟩ : ∃ W, W = ((w.setCell ⟨g, k * 3, none⟩ (.int .u8 (nthA l k).1)).setCell ⟨g, k * 3 + 1, none⟩ (.int .u32 (nthA l k).2.1)).setCell ⟨g, k * 3 + 2, none⟩ (.string (nthA l k).2.2) := ⟨_, rfl⟩
  have hb : W.heap[g]? = some (.cells (((cs.setIfInBounds (k * 3) (.int .u8 (nthA l k).1)).setIfInBounds (k * 3 + 1) (.int .u32 (nthA l k).2.1)).setIfInBounds (k * 3 + 2) (.string (nthA l k).2.2)) 54 (0, 0)) := by
    rw [hW]; simp [World.setCell, Array.getElem?_modify, h1]
  have cell : ∀ j, W.cell? ⟨g, j, none⟩ = (((cs.setIfInBounds (k * 3) (.int .u8 (nthA l k).1)).setIfInBounds (k * 3 + 1) (.int .u32 (nthA l k).2.1)).setIfInBounds (k * 3 + 2) (.string (nthA l k).2.2))[j]? := fun j => by
    simp [World.cell?, hb]
  have old : ∀ j, w.cell? ⟨g, j, none⟩ = cs[j]? := fun j => by simp [World.cell?, h1]
  rw [← hW]
  refine ⟨⟨_, hb, by simp [h2]⟩, fun j hj => ?_⟩
  by_cases hjk : j < k
  · obtain ⟨c1, c2, c3⟩ := h3 j hjk
    rw [old] at c1 c2 c3
    refine ⟨?_, ?_, ?_⟩
    all_goals rw [cell, Array.getElem?_setIfInBounds_ne (by omega), Array.getElem?_setIfInBounds_ne (by omega), Array.getElem?_setIfInBounds_ne (by omega)]
    · exact c1
    · exact c2
    · exact c3
  · obtain rfl : j = k := by omega
    refine ⟨?_, ?_, ?_⟩
    · rw [cell, Array.getElem?_setIfInBounds_ne (by omega), Array.getElem?_setIfInBounds_ne (by omega), Array.getElem?_setIfInBounds_self_of_lt (by omega)]
    · rw [cell, Array.getElem?_setIfInBounds_ne (by omega), Array.getElem?_setIfInBounds_self_of_lt (by simp; omega)]
    · rw [cell, Array.getElem?_setIfInBounds_self_of_lt (by simp; omega)]

theorem PartA.view {w : World} {g n : Nat} {l : List ArgT} (h : PartA w g n n l) (hl : l.length = n) : ArgsV w (some ⟨g, 0, none⟩) l := by
  intro j hj
  obtain ⟨c1, c2, c3⟩ := h.each j (by omega)
  exact ⟨g, 0, rfl, World.block_lt_of_cell? _ _ c1, by rw [Nat.zero_add]; exact c1, by rw [Nat.zero_add]; exact c2, by rw [Nat.zero_add]; exact c3⟩

theorem PartA.drew {w : World} {g n k : Nat} {l : List ArgT} (h : PartA w g n k l) (q : Nat) : PartA (w.drewN q) g n k l := ⟨h.row, h.each⟩

theorem setFar1 {w : World} {g k : Nat} {o : Obj} (h : w.heap[k]? = some o) (hne : k ≠ g) (i : Nat) (u : Value) : (w.setCell ⟨g, i, none⟩ u).heap[k]? = some o := (Below.heap_setCell _ _ _ _ (by simpa using hne)).trans h
theorem setFar3 {w : World} {g k : Nat} {o : Obj} (h : w.heap[k]? = some o) (hne : k ≠ g) (i j m : Nat) (u v x : Value) : (((w.setCell ⟨g, i, none⟩ u).setCell ⟨g, j, none⟩ v).setCell ⟨g, m, none⟩ x).heap[k]? = some o := setFar1 (setFar1 (setFar1 h hne i u) hne j v) hne m x
theorem block_cells {w : World} {B T : Nat} {cs : Array Value} (h : w.heap[B]? = some (.cells cs T (0, 0))) : (∀ i, w.cell? ⟨B, i, none⟩ = cs[i]?) ∧ (∀ i, w.frozen? ⟨B, i, none⟩ = false) := by
  refine ⟨fun i => ?_, fun i => ?_⟩
  · simp [World.cell?, h]
  · simp [World.frozen?, h]

theorem four_set {w : World} {B T : Nat} {z0 z1 z2 z3 : Value} (h : w.heap[B]? = some (.cells #[z0, z1, z2, z3] T (0, 0))) (u0 u1 u2 u3 : Value) :
    ((((w.setCell ⟨B, 0, none⟩ u0).setCell ⟨B, 1, none⟩ u1).setCell ⟨B, 2, none⟩ u2).setCell ⟨B, 3, none⟩ u3).heap[B]? = some (.cells #[u0, u1, u2, u3] T (0, 0)) := by
  simp only [World.setCell, Array.getElem?_modify, h]; simp
theorem four_below (w : World) (B : Nat) (u0 u1 u2 u3 : Value) : Below B w ((((w.setCell ⟨B, 0, none⟩ u0).setCell ⟨B, 1, none⟩ u1).setCell ⟨B, 2, none⟩ u2).setCell ⟨B, 3, none⟩ u3) :=
  ((((Below.refl B w).setCell (Nat.le_refl _) _).setCell (Nat.le_refl _) _).setCell (Nat.le_refl _) _).setCell (Nat.le_refl _) _
theorem args_far {w : World} {b off g : Nat} {l : List ArgT} (h : ArgsV w (some ⟨b, off, none⟩) l) (hg : g ≠ b) (i : Nat) (v : Value) : ArgsV (w.setCell ⟨g, i, none⟩ v) (some ⟨b, off, none⟩) l :=
  h.setCell (fun b' off' e => by cases e; exact fun h => hg h.symm) v

set_option maxRecDepth 100000 in
set_option maxHeartbeats 2000000 in
theorem copyInst_any (x : InstT) (ax : Option Addr) (n cx : Nat) (w : World) (hx : ArgsV w ax x.2.2.2) (hl : x.2.2.2.length = n) (hn : 24 * n ≤ 140737488351232) :
    Calls Try.prog 20 #[instV x ax n cx] w fun e w' => ∃ g, e = .returned (instV x (some ⟨g, 0, none⟩) n n) ∧ w.heap.size ≤ g ∧ ArgsV w' (some ⟨g, 0, none⟩) x.2.2.2 ∧ Below w.heap.size w w' := by
  obtain ⟨i0, hi, hz0, hz1, hz2⟩ := info_parts CopyInst.info
  obtain ⟨xo, xt, xr, xl⟩ := x
  unfold instV
  simp only at *
  have HL : Hid (xl.length = n) := hl
  clear hl
  go_enter Try.func20, Try.ntmps20
  go_wp2_with (at_make; refine wpList_make_full _ rfl _ _ 56 rfl (w.heap.size + 1) 54 i0 (.agg #[.int .u8 0, .int .u32 0, .string ⟨#[]⟩]) 3 Try.underlying56 hi hz0 hz1 _ _ _ _ n rfl rfl (by omega) (by omega) (by rw [hz2]; omega) (by unfold maxLen; omega) (by simp) ?_)
  intro w1 hown1 hgrow1
  have hb0 : Below w.heap.size w ((w.alloc (.cells #[.int .u16 xo, .int .u32 xt, .int .u32 xr, .slice ax n cx] 58)).alloc (.cells #[.int .u16 0, .int .u32 0, .int .u32 0, .slice none 0 0] 58)) := ((Below.refl _ w).alloc (Nat.le_refl _) _).alloc (by simp) _
  have hb1 : Below (w.heap.size + 2) ((w.alloc (.cells #[.int .u16 xo, .int .u32 xt, .int .u32 xr, .slice ax n cx] 58)).alloc (.cells #[.int .u16 0, .int .u32 0, .int .u32 0, .slice none 0 0] 58)) w1 := (Below.refl _ _).grown hgrow1 (by simp) (by simp)
  have hbox : w1.heap[w.heap.size]? = some (.cells #[.int .u16 xo, .int .u32 xt, .int .u32 xr, .slice ax n cx] 58 (0, 0)) := (hb1.block w.heap.size (by omega)).trans ((Below.heap_alloc _ _ _ (by simp)).trans (heap_alloc_new w _))
  have hres : w1.heap[w.heap.size + 1]? = some (.cells #[.int .u16 0, .int .u32 0, .int .u32 0, .slice none 0 0] 58 (0, 0)) := (hb1.block (w.heap.size + 1) (by omega)).trans (by simpa using heap_alloc_new (w.alloc (.cells #[.int .u16 xo, .int .u32 xt, .int .u32 xr, .slice ax n cx] 58)) (.cells #[.int .u16 0, .int .u32 0, .int .u32 0, .slice none 0 0] 58))
  have hP1 : PartA w1 (w.heap.size + 2) n 0 xl := by
    refine ⟨?_, fun j hj => by omega⟩
    rcases hown1.2 with ⟨h, _⟩ | ⟨g, cap', cur, h1, h2, h3, h4, h5, h6, _⟩
    · simp at h
    · simp at h1; obtain ⟨rfl, rfl⟩ := h1; exact ⟨cur, h3, h6⟩
  have hbw1 : Below w.heap.size w w1 := hb0.trans (hb1.mono (by omega))
  clear hown1 hgrow1 hb0 hb1
  go_wp2
  go_loopw [4] (fun i wr => ∃ k : Nat, k ≤ n ∧ i = .int .i64 k ∧ PartA wr (w.heap.size + 2) n k xl ∧ wr.heap[w.heap.size]? = some (.cells #[.int .u16 xo, .int .u32 xt, .int .u32 xr, .slice ax n cx] 58 (0, 0)) ∧ wr.heap[w.heap.size + 1]? = some (.cells #[.int .u16 0, .int .u32 0, .int .u32 0, .slice none 0 0] 58 (0, 0)) ∧ Below w.heap.size w wr) (fun i _ => n - (intOf i).toNat)
  case atStart => exact ⟨0, Nat.zero_le _, rfl, hP1, hbox, hres, hbw1⟩
  case round =>
    obtain ⟨k, hk, rfl, hP, hbx, hrs, hnx⟩ := hrel
    clear hP1 hbw1 hbox hres
    have hbc : wr.cell? ⟨w.heap.size, 3, none⟩ = some (.slice ax n cx) := by simp [World.cell?, hbx]
    have hsz := hnx.size
    by_cases hlt : k < n
    · obtain ⟨b, off, rfl, hbs, p1, p2, p3⟩ := hx k (by rw [HL.out]; exact hlt)
      have q1 := (hnx.cell (p := ⟨b, off + k * 3, none⟩) hbs).trans p1
      have q2 := (hnx.cell (p := ⟨b, off + k * 3 + 1, none⟩) hbs).trans p2
      have q3 := (hnx.cell (p := ⟨b, off + k * 3 + 2, none⟩) hbs).trans p3
      obtain ⟨cs, hr1, hr2⟩ := hP.row
      obtain ⟨⟨u0, d0⟩, f0⟩ := cells_can hr1 (k * 3) (by omega)
      obtain ⟨⟨u1, d1⟩, f1⟩ := cells_can hr1 (k * 3 + 1) (by omega)
      obtain ⟨⟨u2, d2⟩, f2⟩ := cells_can hr1 (k * 3 + 2) (by omega)
      have hki : (k : Int) < (n : Int) := by omega
      have hk0 : (0 : Int) ≤ (k : Int) := by omega
      have hP2 := hP.store hlt
      have HX : Hid (wr.heap[w.heap.size]? = some (.cells #[.int .u16 xo, .int .u32 xt, .int .u32 xr, .slice (some ⟨b, off, none⟩) n cx] 58 (0, 0))) := hbx
      have HP2 : Hid _ := hP2
      have HR : Hid _ := hrs
      clear hP2 hP hr1 hr2 p1 p2 p3 hx hbx hrs
      go_wp2
      go_roundw
      case rel => exact ⟨k + 1, by omega, by go_num, HP2.out, setFar3 HX.out (by omega) _ _ _ _ _ _, setFar3 HR.out (by omega) _ _ _ _ _ _, ((hnx.setCell (by show w.heap.size ≤ w.heap.size + 1 + 1; omega) _).setCell (by show w.heap.size ≤ w.heap.size + 1 + 1; omega) _).setCell (by show w.heap.size ≤ w.heap.size + 1 + 1; omega) _⟩
      case measure => simp [intOf]; omega
    · obtain rfl : k = n := by omega
      obtain ⟨hc, hf⟩ := block_cells hbx
      obtain ⟨hc', hf'⟩ := block_cells hrs
      have c0 := hc 0
      have c1 := hc 1
      have c2 := hc 2
      have r0 := hc' 0
      have r1 := hc' 1
      have r2 := hc' 2
      have r3 := hc' 3
      have hV := hP.view HL.out
      have HV : Hid _ := hV
      have HB : Hid _ := hnx
      have HX : Hid _ := hbx
      have HR : Hid _ := hrs
      clear hP hbx hrs hc hc' hx hV hnx
      go_wp2
      have hB4 := four_set (setFar1 HR.out (show w.heap.size + 1 ≠ w.heap.size by omega) 3 (.slice (some ⟨w.heap.size + 1 + 1, 0, none⟩) k k)) (.int .u16 xo) (.int .u32 xt) (.int .u32 xr) (.slice (some ⟨w.heap.size + 1 + 1, 0, none⟩) k k)
      have hBel := (HB.out.setCell (p := ⟨w.heap.size, 3, none⟩) (Nat.le_refl _) (.slice (some ⟨w.heap.size + 1 + 1, 0, none⟩) k k)).trans ((four_below (wr.setCell ⟨w.heap.size, 3, none⟩ (.slice (some ⟨w.heap.size + 1 + 1, 0, none⟩) k k)) (w.heap.size + 1) (.int .u16 xo) (.int .u32 xt) (.int .u32 xr) (.slice (some ⟨w.heap.size + 1 + 1, 0, none⟩) k k)).mono (show w.heap.size ≤ w.heap.size + 1 by omega))
      have hV2 := args_far HV.out (show w.heap.size ≠ w.heap.size + 2 by omega) 3 (.slice (some ⟨w.heap.size + 1 + 1, 0, none⟩) k k)
      have hV3 := args_far (args_far (args_far (args_far hV2 (show w.heap.size + 1 ≠ w.heap.size + 2 by omega) 0 (.int .u16 xo)) (show w.heap.size + 1 ≠ w.heap.size + 2 by omega) 1 (.int .u32 xt)) (show w.heap.size + 1 ≠ w.heap.size + 2 by omega) 2 (.int .u32 xr)) (show w.heap.size + 1 ≠ w.heap.size + 2 by omega) 3 (.slice (some ⟨w.heap.size + 1 + 1, 0, none⟩) k k)
      clear hV2 HV HB HR HX c0 c1 c2 r0 r1 r2 r3 hf hf'
      generalize ((((wr.setCell _ _).setCell _ _).setCell _ _).setCell _ _).setCell _ _ = W at hB4 hBel hV3 ⊢
      obtain ⟨hd, _⟩ := block_cells hB4
      have d0 := hd 0
      have d1 := hd 1
      have d2 := hd 2
      have d3 := hd 3
      refine bodyPost_ret (v := .agg #[.int .u16 xo, .int .u32 xt, .int .u32 xr, .slice (some ⟨w.heap.size + 1 + 1, 0, none⟩) k k]) ?_ rfl ⟨w.heap.size + 1 + 1, rfl, by omega, hV3, hBel⟩
      simp [results, Try.results20, go_sem, d0, d1, d2, d3]

end Go.Proofs.Ytcckepjpehjijaa

/-
  CopyInst of the kit answers the instruction in new memory: a row of its own.
-/
namespace Go.Proofs.Ytcckepjpehjijaa
open Go.RowKit

set_option maxRecDepth 100000 in
set_option maxHeartbeats 2000000 in
theorem copyInst_own (x : InstT) (ax : Option Addr) (n cx : Nat) (w : World) (hx : ArgsV w ax x.2.2.2) (hl : x.2.2.2.length = n) (hn : 24 * n ≤ 140737488351232) :
    Calls Try.prog 20 #[instV x ax n cx] w fun e w' => ∃ g, e = .returned (instV x (some ⟨g, 0, none⟩) n n) ∧ w.heap.size ≤ g ∧ ArgsV w' (some ⟨g, 0, none⟩) x.2.2.2 ∧ (∃ cs : Array Value, w'.heap[g]? = some (.cells cs 54 (0, 0)) ∧ cs.size = n * 3) ∧ Below w.heap.size w w' := by
  obtain ⟨i0, hi, hz0, hz1, hz2⟩ := info_parts CopyInst.info
  obtain ⟨xo, xt, xr, xl⟩ := x
  unfold instV
  simp only at *
  have HL : Hid (xl.length = n) := hl
  clear hl
  go_enter Try.func20, Try.ntmps20
  go_wp2_with (at_make; refine wpList_make_full _ rfl _ _ 56 rfl (w.heap.size + 1) 54 i0 (.agg #[.int .u8 0, .int .u32 0, .string ⟨#[]⟩]) 3 Try.underlying56 hi hz0 hz1 _ _ _ _ n rfl rfl (by omega) (by omega) (by rw [hz2]; omega) (by unfold maxLen; omega) (by simp) ?_)
  intro w1 hown1 hgrow1
  have hb0 : Below w.heap.size w ((w.alloc (.cells #[.int .u16 xo, .int .u32 xt, .int .u32 xr, .slice ax n cx] 58)).alloc (.cells #[.int .u16 0, .int .u32 0, .int .u32 0, .slice none 0 0] 58)) := ((Below.refl _ w).alloc (Nat.le_refl _) _).alloc (by simp) _
  have hb1 : Below (w.heap.size + 2) ((w.alloc (.cells #[.int .u16 xo, .int .u32 xt, .int .u32 xr, .slice ax n cx] 58)).alloc (.cells #[.int .u16 0, .int .u32 0, .int .u32 0, .slice none 0 0] 58)) w1 := (Below.refl _ _).grown hgrow1 (by simp) (by simp)
  have hbox : w1.heap[w.heap.size]? = some (.cells #[.int .u16 xo, .int .u32 xt, .int .u32 xr, .slice ax n cx] 58 (0, 0)) := (hb1.block w.heap.size (by omega)).trans ((Below.heap_alloc _ _ _ (by simp)).trans (heap_alloc_new w _))
  have hres : w1.heap[w.heap.size + 1]? = some (.cells #[.int .u16 0, .int .u32 0, .int .u32 0, .slice none 0 0] 58 (0, 0)) := (hb1.block (w.heap.size + 1) (by omega)).trans (by simpa using heap_alloc_new (w.alloc (.cells #[.int .u16 xo, .int .u32 xt, .int .u32 xr, .slice ax n cx] 58)) (.cells #[.int .u16 0, .int .u32 0, .int .u32 0, .slice none 0 0] 58))
  have hP1 : PartA w1 (w.heap.size + 2) n 0 xl := by
    refine ⟨?_, fun j hj => by omega⟩
    rcases hown1.2 with ⟨h, _⟩ | ⟨g, cap', cur, h1, h2, h3, h4, h5, h6, _⟩
    · simp at h
    · simp at h1; obtain ⟨rfl, rfl⟩ := h1; exact ⟨cur, h3, h6⟩
  have hbw1 : Below w.heap.size w w1 := hb0.trans (hb1.mono (by omega))
  clear hown1 hgrow1 hb0 hb1
  go_wp2
  go_loopw [4] (fun i wr => ∃ k : Nat, k ≤ n ∧ i = .int .i64 k ∧ PartA wr (w.heap.size + 2) n k xl ∧ wr.heap[w.heap.size]? = some (.cells #[.int .u16 xo, .int .u32 xt, .int .u32 xr, .slice ax n cx] 58 (0, 0)) ∧ wr.heap[w.heap.size + 1]? = some (.cells #[.int .u16 0, .int .u32 0, .int .u32 0, .slice none 0 0] 58 (0, 0)) ∧ Below w.heap.size w wr) (fun i _ => n - (intOf i).toNat)
  case atStart => exact ⟨0, Nat.zero_le _, rfl, hP1, hbox, hres, hbw1⟩
  case round =>
    obtain ⟨k, hk, rfl, hP, hbx, hrs, hnx⟩ := hrel
    clear hP1 hbw1 hbox hres
    have hbc : wr.cell? ⟨w.heap.size, 3, none⟩ = some (.slice ax n cx) := by simp [World.cell?, hbx]
    have hsz := hnx.size
    by_cases hlt : k < n
    · obtain ⟨b, off, rfl, hbs, p1, p2, p3⟩ := hx k (by rw [HL.out]; exact hlt)
      have q1 := (hnx.cell (p := ⟨b, off + k * 3, none⟩) hbs).trans p1
      have q2 := (hnx.cell (p := ⟨b, off + k * 3 + 1, none⟩) hbs).trans p2
      have q3 := (hnx.cell (p := ⟨b, off + k * 3 + 2, none⟩) hbs).trans p3
      obtain ⟨cs, hr1, hr2⟩ := hP.row
      obtain ⟨⟨u0, d0⟩, f0⟩ := cells_can hr1 (k * 3) (by omega)
      obtain ⟨⟨u1, d1⟩, f1⟩ := cells_can hr1 (k * 3 + 1) (by omega)
      obtain ⟨⟨u2, d2⟩, f2⟩ := cells_can hr1 (k * 3 + 2) (by omega)
      have hki : (k : Int) < (n : Int) := by omega
      have hk0 : (0 : Int) ≤ (k : Int) := by omega
      have hP2 := hP.store hlt
      have HX : Hid (wr.heap[w.heap.size]? = some (.cells #[.int .u16 xo, .int .u32 xt, .int .u32 xr, .slice (some ⟨b, off, none⟩) n cx] 58 (0, 0))) := hbx
      have HP2 : Hid _ := hP2
      have HR : Hid _ := hrs
      clear hP2 hP hr1 hr2 p1 p2 p3 hx hbx hrs
      go_wp2
      go_roundw
      case rel => exact ⟨k + 1, by omega, by go_num, HP2.out, setFar3 HX.out (by omega) _ _ _ _ _ _, setFar3 HR.out (by omega) _ _ _ _ _ _, ((hnx.setCell (by show w.heap.size ≤ w.heap.size + 1 + 1; omega) _).setCell (by show w.heap.size ≤ w.heap.size + 1 + 1; omega) _).setCell (by show w.heap.size ≤ w.heap.size + 1 + 1; omega) _⟩
      case measure => simp [intOf]; omega
    · obtain rfl : k = n := by omega
      obtain ⟨hc, hf⟩ := block_cells hbx
      obtain ⟨hc', hf'⟩ := block_cells hrs
      have c0 := hc 0
      have c1 := hc 1
      have c2 := hc 2
      have r0 := hc' 0
      have r1 := hc' 1
      have r2 := hc' 2
      have r3 := hc' 3
      have hV := hP.view HL.out
      obtain ⟨csr, hrw1, hrw2⟩ := hP.row
      have HRW : Hid (wr.heap[w.heap.size + 2]? = some (.cells csr 54 (0, 0))) := hrw1
      have HRZ : Hid (csr.size = k * 3) := hrw2
      clear hrw1 hrw2
      have HV : Hid _ := hV
      have HB : Hid _ := hnx
      have HX : Hid _ := hbx
      have HR : Hid _ := hrs
      clear hP hbx hrs hc hc' hx hV hnx
      go_wp2
      have hB4 := four_set (setFar1 HR.out (show w.heap.size + 1 ≠ w.heap.size by omega) 3 (.slice (some ⟨w.heap.size + 1 + 1, 0, none⟩) k k)) (.int .u16 xo) (.int .u32 xt) (.int .u32 xr) (.slice (some ⟨w.heap.size + 1 + 1, 0, none⟩) k k)
      have hBel := (HB.out.setCell (p := ⟨w.heap.size, 3, none⟩) (Nat.le_refl _) (.slice (some ⟨w.heap.size + 1 + 1, 0, none⟩) k k)).trans ((four_below (wr.setCell ⟨w.heap.size, 3, none⟩ (.slice (some ⟨w.heap.size + 1 + 1, 0, none⟩) k k)) (w.heap.size + 1) (.int .u16 xo) (.int .u32 xt) (.int .u32 xr) (.slice (some ⟨w.heap.size + 1 + 1, 0, none⟩) k k)).mono (show w.heap.size ≤ w.heap.size + 1 by omega))
      have hV2 := args_far HV.out (show w.heap.size ≠ w.heap.size + 2 by omega) 3 (.slice (some ⟨w.heap.size + 1 + 1, 0, none⟩) k k)
      have hV3 := args_far (args_far (args_far (args_far hV2 (show w.heap.size + 1 ≠ w.heap.size + 2 by omega) 0 (.int .u16 xo)) (show w.heap.size + 1 ≠ w.heap.size + 2 by omega) 1 (.int .u32 xt)) (show w.heap.size + 1 ≠ w.heap.size + 2 by omega) 2 (.int .u32 xr)) (show w.heap.size + 1 ≠ w.heap.size + 2 by omega) 3 (.slice (some ⟨w.heap.size + 1 + 1, 0, none⟩) k k)
      have hRW3 := setFar1 (setFar1 (setFar1 (setFar1 (setFar1 HRW.out (show w.heap.size + 2 ≠ w.heap.size by omega) 3 (.slice (some ⟨w.heap.size + 1 + 1, 0, none⟩) k k)) (show w.heap.size + 2 ≠ w.heap.size + 1 by omega) 0 (.int .u16 xo)) (show w.heap.size + 2 ≠ w.heap.size + 1 by omega) 1 (.int .u32 xt)) (show w.heap.size + 2 ≠ w.heap.size + 1 by omega) 2 (.int .u32 xr)) (show w.heap.size + 2 ≠ w.heap.size + 1 by omega) 3 (.slice (some ⟨w.heap.size + 1 + 1, 0, none⟩) k k)
      clear hV2 HV HB HR HX HRW c0 c1 c2 r0 r1 r2 r3 hf hf'
      generalize ((((wr.setCell _ _).setCell _ _).setCell _ _).setCell _ _).setCell _ _ = W at hB4 hBel hV3 hRW3 ⊢
      obtain ⟨hd, _⟩ := block_cells hB4
      have d0 := hd 0
      have d1 := hd 1
      have d2 := hd 2
      have d3 := hd 3
      refine bodyPost_ret (v := .agg #[.int .u16 xo, .int .u32 xt, .int .u32 xr, .slice (some ⟨w.heap.size + 1 + 1, 0, none⟩) k k]) ?_ rfl ⟨w.heap.size + 1 + 1, rfl, by omega, hV3, ⟨csr, hRW3, HRZ.out⟩, hBel⟩
      simp [results, Try.results20, go_sem, d0, d1, d2, d3]

end Go.Proofs.Ytcckepjpehjijaa

/-
  CopyModule of the kit answers the module in new memory.
-/
namespace Go.Proofs.Ytcckepjpehjijaa
open Go.RowKit

theorem CopyModule.info : (Try.prog.info? 58).map (fun i => (i.zero, i.size, i.bytes)) = some (some (.agg #[.int .u16 0, .int .u32 0, .int .u32 0, .slice none 0 0]), 4, 40) := by kernel_rfl

/-- The first k instructions lie in the row at g, their arguments in later blocks. -/
structure PartI (w : World) (g n k : Nat) (l : List InstT) : Prop where
  row : ∃ cs : Array Value, w.heap[g]? = some (.cells cs 58 (0, 0)) ∧ cs.size = n * 4
  each : ∀ j, j < k → ∃ gj nj, w.cell? ⟨g, j * 4, none⟩ = some (.int .u16 (nthI l j).1) ∧ w.cell? ⟨g, j * 4 + 1, none⟩ = some (.int .u32 (nthI l j).2.1) ∧ w.cell? ⟨g, j * 4 + 2, none⟩ = some (.int .u32 (nthI l j).2.2.1) ∧ w.cell? ⟨g, j * 4 + 3, none⟩ = some (.slice (some ⟨gj, 0, none⟩) nj nj) ∧
    (nthI l j).2.2.2.length = nj ∧ ArgsV w (some ⟨gj, 0, none⟩) (nthI l j).2.2.2 ∧ g < gj

theorem PartI.below {w w' : World} {g n k : Nat} {l : List InstT} (h : PartI w g n k l) (hb : Below w.heap.size w w') : PartI w' g n k l := by
  obtain ⟨⟨cs, h1, h2⟩, h3⟩ := h
  have hg : g < w.heap.size := (Array.getElem?_eq_some_iff.1 h1).1
  refine ⟨⟨cs, by rw [hb.block g hg]; exact h1, h2⟩, fun j hj => ?_⟩
  obtain ⟨gj, nj, c1, c2, c3, c4, c5, c6, c7⟩ := h3 j hj
  exact ⟨gj, nj, (hb.cell (p := ⟨g, j * 4, none⟩) hg).trans c1, (hb.cell (p := ⟨g, j * 4 + 1, none⟩) hg).trans c2, (hb.cell (p := ⟨g, j * 4 + 2, none⟩) hg).trans c3, (hb.cell (p := ⟨g, j * 4 + 3, none⟩) hg).trans c4, c5, c6.below hb, c7⟩

/-- An instruction is stored. -/
theorem PartI.store {w : World} {g n k : Nat} {l : List InstT} (h : PartI w g n k l) (hk : k < n) (gk nk : Nat) (hl : (nthI l k).2.2.2.length = nk) (hv : ArgsV w (some ⟨gk, 0, none⟩) (nthI l k).2.2.2) (hg : g < gk) :
    PartI ((((w.setCell ⟨g, k * 4, none⟩ (.int .u16 (nthI l k).1)).setCell ⟨g, k * 4 + 1, none⟩ (.int .u32 (nthI l k).2.1)).setCell ⟨g, k * 4 + 2, none⟩ (.int .u32 (nthI l k).2.2.1)).setCell ⟨g, k * 4 + 3, none⟩ (.slice (some ⟨gk, 0, none⟩) nk nk)) g n (k + 1) l := by
  obtain ⟨⟨cs, h1, h2⟩, h3⟩ := h
  obtain ⟨W, hW⟩ : ∃ W, W = (((w.setCell ⟨g, k * 4, none⟩ (.int .u16 (nthI l k).1)).setCell ⟨g, k * 4 + 1, none⟩ (.int .u32 (nthI l k).2.1)).setCell ⟨g, k * 4 + 2, none⟩ (.int .u32 (nthI l k).2.2.1)).setCell ⟨g, k * 4 + 3, none⟩ (.slice (some ⟨gk, 0, none⟩) nk nk) := ⟨_, rfl⟩
  have hb : W.heap[g]? = some (.cells ((((cs.setIfInBounds (k * 4) (.int .u16 (nthI l k).1)).setIfInBounds (k * 4 + 1) (.int .u32 (nthI l k).2.1)).setIfInBounds (k * 4 + 2) (.int .u32 (nthI l k).2.2.1)).setIfInBounds (k * 4 + 3) (.slice (some ⟨gk, 0, none⟩) nk nk)) 58 (0, 0)) := by
    rw [hW]; simp [World.setCell, Array.getElem?_modify, h1]
  have cell : ∀ j, W.cell? ⟨g, j, none⟩ = ((((cs.setIfInBounds (k * 4) (.int .u16 (nthI l k).1)).setIfInBounds (k * 4 + 1) (.int .u32 (nthI l k).2.1)).setIfInBounds (k * 4 + 2) (.int .u32 (nthI l k).2.2.1)).setIfInBounds (k * 4 + 3) (.slice (some ⟨gk, 0, none⟩) nk nk))[j]? := fun j => by
    simp [World.cell?, hb]
  have old : ∀ j, w.cell? ⟨g, j, none⟩ = cs[j]? := fun j => by simp [World.cell?, h1]
  have far : ∀ gj m, g < gj → ArgsV w (some ⟨gj, 0, none⟩) m → ArgsV W (some ⟨gj, 0, none⟩) m := fun gj m hlt hm => by
    rw [hW]
    exact args_far (args_far (args_far (args_far hm (by omega) _ _) (by omega) _ _) (by omega) _ _) (by omega) _ _
  rw [← hW]
  refine ⟨⟨_, hb, by simp [h2]⟩, fun j hj => ?_⟩
  by_cases hjk : j < k
  · obtain ⟨gj, nj, c1, c2, c3, c4, c5, c6, c7⟩ := h3 j hjk
    rw [old] at c1 c2 c3 c4
    refine ⟨gj, nj, ?_, ?_, ?_, ?_, c5, far _ _ c7 c6, c7⟩
    all_goals rw [cell, Array.getElem?_setIfInBounds_ne (by omega), Array.getElem?_setIfInBounds_ne (by omega), Array.getElem?_setIfInBounds_ne (by omega), Array.getElem?_setIfInBounds_ne (by omega)]
    · exact c1
    · exact c2
    · exact c3
    · exact c4
  · obtain rfl : j = k := by omega
    refine ⟨gk, nk, ?_, ?_, ?_, ?_, hl, far _ _ hg hv, hg⟩
    · rw [cell, Array.getElem?_setIfInBounds_ne (by omega), Array.getElem?_setIfInBounds_ne (by omega), Array.getElem?_setIfInBounds_ne (by omega), Array.getElem?_setIfInBounds_self_of_lt (by omega)]
    · rw [cell, Array.getElem?_setIfInBounds_ne (by omega), Array.getElem?_setIfInBounds_ne (by omega), Array.getElem?_setIfInBounds_self_of_lt (by simp; omega)]
    · rw [cell, Array.getElem?_setIfInBounds_ne (by omega), Array.getElem?_setIfInBounds_self_of_lt (by simp; omega)]
    · rw [cell, Array.getElem?_setIfInBounds_self_of_lt (by simp; omega)]

theorem PartI.view {w : World} {g n : Nat} {l : List InstT} (h : PartI w g n n l) (hl : l.length = n) : InstsV w (some ⟨g, 0, none⟩) l := by
  intro j hj
  obtain ⟨gj, nj, c1, c2, c3, c4, c5, c6, c7⟩ := h.each j (by omega)
  exact ⟨g, 0, some ⟨gj, 0, none⟩, nj, nj, rfl, World.block_lt_of_cell? _ _ c1, by rw [Nat.zero_add]; exact c1, by rw [Nat.zero_add]; exact c2, by rw [Nat.zero_add]; exact c3, by rw [Nat.zero_add]; exact c4, c5, c6, Nat.le_refl _⟩

theorem PartI.far {w : World} {g n k : Nat} {l : List InstT} (h : PartI w g n k l) {b : Nat} (hb : b < g) (i : Nat) (v : Value) : PartI (w.setCell ⟨b, i, none⟩ v) g n k l := by
  obtain ⟨⟨cs, h1, h2⟩, h3⟩ := h
  have hx : (w.setCell ⟨b, i, none⟩ v).heap[g]? = w.heap[g]? := Below.heap_setCell _ _ _ _ (by simp; omega)
  have hc : ∀ j, (w.setCell ⟨b, i, none⟩ v).cell? ⟨g, j, none⟩ = w.cell? ⟨g, j, none⟩ := fun j => by simp only [World.cell?, hx]
  refine ⟨⟨cs, by rw [hx]; exact h1, h2⟩, fun j hj => ?_⟩
  obtain ⟨gj, nj, c1, c2, c3, c4, c5, c6, c7⟩ := h3 j hj
  exact ⟨gj, nj, by rw [hc]; exact c1, by rw [hc]; exact c2, by rw [hc]; exact c3, by rw [hc]; exact c4, c5, args_far c6 (by omega) _ _, c7⟩

theorem three_set3 {w : World} {B T : Nat} {z0 z1 z2 : Value} (h : w.heap[B]? = some (.cells #[z0, z1, z2] T (0, 0))) (u0 u1 u2 : Value) :
    (((w.setCell ⟨B, 0, none⟩ u0).setCell ⟨B, 1, none⟩ u1).setCell ⟨B, 2, none⟩ u2).heap[B]? = some (.cells #[u0, u1, u2] T (0, 0)) := by
  simp only [World.setCell, Array.getElem?_modify, h]; simp
theorem three_below3 (w : World) (B : Nat) (u0 u1 u2 : Value) : Below B w (((w.setCell ⟨B, 0, none⟩ u0).setCell ⟨B, 1, none⟩ u1).setCell ⟨B, 2, none⟩ u2) :=
  (((Below.refl B w).setCell (Nat.le_refl _) _).setCell (Nat.le_refl _) _).setCell (Nat.le_refl _) _

set_option maxRecDepth 100000 in
set_option maxHeartbeats 4000000 in
theorem copyModule_any (gen bound : Int) (ax : Option Addr) (n cx : Nat) (l : List InstT) (w : World) (hx : InstsV w ax l) (hok : InstsOk l) (hl : l.length = n) (hn : 40 * n ≤ 140737488351232) :
    Calls Try.prog 7 #[modV gen bound ax n cx] w fun e w' => ∃ g, e = .returned (modV gen bound (some ⟨g, 0, none⟩) n n) ∧ w.heap.size ≤ g ∧ InstsV w' (some ⟨g, 0, none⟩) l ∧ Below w.heap.size w w' := by
  obtain ⟨i0, hi, hz0, hz1, hz2⟩ := info_parts CopyModule.info
  unfold modV
  have HL : Hid (l.length = n) := hl
  clear hl
  go_enter Try.func7, Try.ntmps7
  go_wp2_with (at_make; refine wpList_make_full _ rfl _ _ 23 rfl (w.heap.size + 2) 58 i0 (.agg #[.int .u16 0, .int .u32 0, .int .u32 0, .slice none 0 0]) 4 Try.underlying23 hi hz0 hz1 _ _ _ _ n rfl rfl (by omega) (by omega) (by rw [hz2]; omega) (by unfold maxLen; omega) (by simp) ?_)
  intro w1 hown1 hgrow1
  have hb0 : Below w.heap.size w ((w.alloc (.cells #[.int .u32 gen, .int .u32 bound, .slice ax n cx] 25)).alloc (.cells #[.int .u32 0, .int .u32 0, .slice none 0 0] 25)) := ((Below.refl _ w).alloc (Nat.le_refl _) _).alloc (by simp) _
  have hb1 : Below (w.heap.size + 2) ((w.alloc (.cells #[.int .u32 gen, .int .u32 bound, .slice ax n cx] 25)).alloc (.cells #[.int .u32 0, .int .u32 0, .slice none 0 0] 25)) w1 := (Below.refl _ _).grown hgrow1 (by simp) (by simp)
  have hbox : w1.heap[w.heap.size]? = some (.cells #[.int .u32 gen, .int .u32 bound, .slice ax n cx] 25 (0, 0)) := (hb1.block w.heap.size (by omega)).trans ((Below.heap_alloc _ _ _ (by simp)).trans (heap_alloc_new w _))
  have hres : w1.heap[w.heap.size + 1]? = some (.cells #[.int .u32 0, .int .u32 0, .slice none 0 0] 25 (0, 0)) := (hb1.block (w.heap.size + 1) (by omega)).trans (by simpa using heap_alloc_new (w.alloc (.cells #[.int .u32 gen, .int .u32 bound, .slice ax n cx] 25)) (.cells #[.int .u32 0, .int .u32 0, .slice none 0 0] 25))
  have hP1 : PartI w1 (w.heap.size + 2) n 0 l := by
    refine ⟨?_, fun j hj => by omega⟩
    rcases hown1.2 with ⟨h, _⟩ | ⟨g, cap', cur, h1, h2, h3, h4, h5, h6, _⟩
    · simp at h
    · simp at h1; obtain ⟨rfl, rfl⟩ := h1; exact ⟨cur, h3, h6⟩
  have hbw1 : Below w.heap.size w w1 := hb0.trans (hb1.mono (by omega))
  clear hown1 hgrow1 hb0 hb1
  go_wp2
  go_loopw [4] (fun i wr => ∃ k : Nat, k ≤ n ∧ i = .int .i64 k ∧ PartI wr (w.heap.size + 2) n k l ∧ wr.heap[w.heap.size]? = some (.cells #[.int .u32 gen, .int .u32 bound, .slice ax n cx] 25 (0, 0)) ∧ wr.heap[w.heap.size + 1]? = some (.cells #[.int .u32 0, .int .u32 0, .slice none 0 0] 25 (0, 0)) ∧ Below w.heap.size w wr) (fun i _ => n - (intOf i).toNat)
  case atStart => exact ⟨0, Nat.zero_le _, rfl, hP1, hbox, hres, hbw1⟩
  case round =>
    obtain ⟨k, hk, rfl, hP, hbx, hrs, hnx⟩ := hrel
    clear hP1 hbw1 hbox hres
    have hbc : wr.cell? ⟨w.heap.size, 2, none⟩ = some (.slice ax n cx) := by simp [World.cell?, hbx]
    have hsz := hnx.size
    by_cases hlt : k < n
    · obtain ⟨b, off, aj, cj, nj, rfl, hbs, p1, p2, p3, p4, p5, p6, _⟩ := hx k (by rw [HL.out]; exact hlt)
      have q1 := (hnx.cell (p := ⟨b, off + k * 4, none⟩) hbs).trans p1
      have q2 := (hnx.cell (p := ⟨b, off + k * 4 + 1, none⟩) hbs).trans p2
      have q3 := (hnx.cell (p := ⟨b, off + k * 4 + 2, none⟩) hbs).trans p3
      have q4 := (hnx.cell (p := ⟨b, off + k * 4 + 3, none⟩) hbs).trans p4
      obtain ⟨cs, hr1, hr2⟩ := hP.row
      have hgl : w.heap.size + 1 + 1 < wr.heap.size := (Array.getElem?_eq_some_iff.1 hr1).1
      obtain ⟨⟨u0, d0⟩, f0⟩ := cells_can hr1 (k * 4) (by omega)
      obtain ⟨⟨u1, d1⟩, f1⟩ := cells_can hr1 (k * 4 + 1) (by omega)
      obtain ⟨⟨u2, d2⟩, f2⟩ := cells_can hr1 (k * 4 + 2) (by omega)
      obtain ⟨⟨u3, d3⟩, f3⟩ := cells_can hr1 (k * 4 + 3) (by omega)
      have hki : (k : Int) < (n : Int) := by omega
      have hk0 : (0 : Int) ≤ (k : Int) := by omega
      have s1 := (hok k (by rw [HL.out]; exact hlt)).2.2.2.2.2.2.2
      rw [p5] at s1
      have hC := fun wx (hb : Below wr.heap.size wr wx) => copyInst_any (nthI l k) aj nj cj wx ((p6.below hnx).below hb) p5 s1
      unfold instV at hC
      have hbs' : b < wr.heap.size := by omega
      have HX : Hid (wr.heap[w.heap.size]? = some (.cells #[.int .u32 gen, .int .u32 bound, .slice (some ⟨b, off, none⟩) n cx] 25 (0, 0))) := hbx
      have HR : Hid _ := hrs
      have HP : Hid (PartI wr (w.heap.size + 2) n k l) := hP
      have HV3 : Hid ((nthI l k).2.2.2.length = nj) := p5
      clear p1 p2 p3 p4 p5 p6 hr1 hr2 hP hx hok hbx hrs s1
      go_wp2_with fail
      refine (hC _ (Below.refl _ _)).mono ?_
      rintro e w' ⟨g', rfl, hg', hvC, hbC⟩
      have e1 := (hbC.cell (p := ⟨w.heap.size + 1 + 1, k * 4, none⟩) (by exact hgl)).trans d0
      have e2 := (hbC.cell (p := ⟨w.heap.size + 1 + 1, k * 4 + 1, none⟩) (by exact hgl)).trans d1
      have e3 := (hbC.cell (p := ⟨w.heap.size + 1 + 1, k * 4 + 2, none⟩) (by exact hgl)).trans d2
      have e4 := (hbC.cell (p := ⟨w.heap.size + 1 + 1, k * 4 + 3, none⟩) (by exact hgl)).trans d3
      have e5 := (hbC.frozen (p := ⟨w.heap.size + 1 + 1, k * 4, none⟩) (by exact hgl)).trans f0
      have e6 := (hbC.frozen (p := ⟨w.heap.size + 1 + 1, k * 4 + 1, none⟩) (by exact hgl)).trans f1
      have e7 := (hbC.frozen (p := ⟨w.heap.size + 1 + 1, k * 4 + 2, none⟩) (by exact hgl)).trans f2
      have e8 := (hbC.frozen (p := ⟨w.heap.size + 1 + 1, k * 4 + 3, none⟩) (by exact hgl)).trans f3
      have hP2 := (HP.out.below hbC).store hlt g' nj HV3.out hvC (by omega)
      have hX2 := (hbC.block w.heap.size (by omega)).trans HX.out
      have hR2 := (hbC.block (w.heap.size + 1) (by omega)).trans HR.out
      have hB2 := hnx.trans (hbC.mono hsz)
      have HP2 : Hid _ := hP2
      have HX2 : Hid _ := hX2
      have HR2 : Hid _ := hR2
      have HB2 : Hid _ := hB2
      clear hP2 hX2 hR2 hB2 hvC hbC HP HX HR d0 d1 d2 d3 f0 f1 f2 f3 hC
      go_wp2
      go_roundw
      case rel => exact ⟨k + 1, by omega, by go_num, HP2.out, setFar1 (setFar3 HX2.out (by omega) _ _ _ _ _ _) (by omega) _ _, setFar1 (setFar3 HR2.out (by omega) _ _ _ _ _ _) (by omega) _ _, (((HB2.out.setCell (by show w.heap.size ≤ w.heap.size + 1 + 1; omega) _).setCell (by show w.heap.size ≤ w.heap.size + 1 + 1; omega) _).setCell (by show w.heap.size ≤ w.heap.size + 1 + 1; omega) _).setCell (by show w.heap.size ≤ w.heap.size + 1 + 1; omega) _⟩
      case measure => simp [intOf]; omega
    · obtain rfl : k = n := by omega
      obtain ⟨hc, hf⟩ := block_cells hbx
      obtain ⟨hc', hf'⟩ := block_cells hrs
      have c0 := hc 0
      have c1 := hc 1
      have r0 := hc' 0
      have r1 := hc' 1
      have r2 := hc' 2
      have HP : Hid _ := hP
      have HB : Hid _ := hnx
      have HX : Hid _ := hbx
      have HR : Hid _ := hrs
      clear hP hbx hrs hc hc' hx hnx
      go_wp2
      have hB3 := three_set3 (setFar1 HR.out (show w.heap.size + 1 ≠ w.heap.size by omega) 2 (.slice (some ⟨w.heap.size + 1 + 1, 0, none⟩) k k)) (.int .u32 gen) (.int .u32 bound) (.slice (some ⟨w.heap.size + 1 + 1, 0, none⟩) k k)
      have hBel := (HB.out.setCell (p := ⟨w.heap.size, 2, none⟩) (Nat.le_refl _) (.slice (some ⟨w.heap.size + 1 + 1, 0, none⟩) k k)).trans ((three_below3 (wr.setCell ⟨w.heap.size, 2, none⟩ (.slice (some ⟨w.heap.size + 1 + 1, 0, none⟩) k k)) (w.heap.size + 1) (.int .u32 gen) (.int .u32 bound) (.slice (some ⟨w.heap.size + 1 + 1, 0, none⟩) k k)).mono (show w.heap.size ≤ w.heap.size + 1 by omega))
      have hV3 := (((((HP.out.far (b := w.heap.size) (by omega) 2 (.slice (some ⟨w.heap.size + 1 + 1, 0, none⟩) k k)).far (b := w.heap.size + 1) (by omega) 0 (.int .u32 gen)).far (b := w.heap.size + 1) (by omega) 1 (.int .u32 bound)).far (b := w.heap.size + 1) (by omega) 2 (.slice (some ⟨w.heap.size + 1 + 1, 0, none⟩) k k))).view HL.out
      clear HP HB HR HX c0 c1 r0 r1 r2 hf hf'
      generalize (((wr.setCell _ _).setCell _ _).setCell _ _).setCell _ _ = W at hB3 hBel hV3 ⊢
      obtain ⟨hd, _⟩ := block_cells hB3
      have d0 := hd 0
      have d1 := hd 1
      have d2 := hd 2
      refine bodyPost_ret (v := .agg #[.int .u32 gen, .int .u32 bound, .slice (some ⟨w.heap.size + 1 + 1, 0, none⟩) k k]) ?_ rfl ⟨w.heap.size + 1 + 1, rfl, by omega, hV3, hBel⟩
      simp [results, Try.results7, go_sem, d0, d1, d2]

end Go.Proofs.Ytcckepjpehjijaa
