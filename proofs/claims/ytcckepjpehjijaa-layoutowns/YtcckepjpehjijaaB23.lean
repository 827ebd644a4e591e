/-
  Texts laid together in one: Law05Same, MapU, IdsMakers, MathIc, MathOw, LayoutOwner0, LayoutOwner.
-/
import Derived.WalkSpells
import Derived.Deep.QuietTactic
import Derived.BigQuiet
import Derived.Test.YtcckepjpehjijaaProg
import Derived.Test.YtcckepjpehjijaaB20
import Derived.Test.YtcckepjpehjijaaB22
import Derived.Test.YtcckepjpehjijaaB04
import Derived.Test.YtcckepjpehjijaaB07
import Derived.WalkMore
import Derived.Maps.OwnSet
import Derived.Test.YtcckepjpehjijaaB01
import Derived.BigRegion
import Derived.Test.YtcckepjpehjijaaB11
import Derived.Test.YtcckepjpehjijaaB16
import Derived.Test.YtcckepjpehjijaaB21
import Derived.Deep.RegionWith
import Derived.Deep.MidRow
import Derived.Test.YtcckepjpehjijaaB17
/-
  The law's sameFuncs answers true of the same functions.
-/
namespace Go.Proofs.Ytcckepjpehjijaa
open Go.RowKit
set_option linter.unusedVariables false
set_option linter.unusedSimpArgs false
set_option maxRecDepth 10000

/-- Functions that can be read. -/
def FuncsR (w : World) (v : Value) (fs : List FuncT) : Prop :=
  ∃ x c, v = .slice x fs.length c ∧ ∀ j, j < fs.length → ∃ F xp cp xq cq, x = some ⟨F, 0, none⟩ ∧ F < w.heap.size ∧
      w.cell? ⟨F, j * 5, none⟩ = some (.int .u32 (nthF fs j).1) ∧ w.cell? ⟨F, j * 5 + 1, none⟩ = some (.int .i64 (nthF fs j).2.1) ∧ w.cell? ⟨F, j * 5 + 2, none⟩ = some (.slice xp (nthF fs j).2.2.1.length cp) ∧ w.cell? ⟨F, j * 5 + 3, none⟩ = some (.slice xq (nthF fs j).2.2.2.1.length cq) ∧ w.cell? ⟨F, j * 5 + 4, none⟩ = some (.int .i64 (nthF fs j).2.2.2.2) ∧
      View .i64 w xp (nthF fs j).2.2.1 ∧
      ∀ k, k < (nthF fs j).2.2.2.1.length → ∃ G, xq = some ⟨G, 0, none⟩ ∧ G < w.heap.size ∧ w.cell? ⟨G, k * 3, none⟩ = some (.int .u32 (nthB (nthF fs j).2.2.2.1 k).1) ∧ w.cell? ⟨G, k * 3 + 1, none⟩ = some (.int .i64 (nthB (nthF fs j).2.2.2.1 k).2.1) ∧ w.cell? ⟨G, k * 3 + 2, none⟩ = some (.int .i64 (nthB (nthF fs j).2.2.2.1 k).2.2)
theorem FuncsAt.readV {w : World} {lo : Nat} {fv : Value} {fs : List FuncT} (h : FuncsAt w lo fv fs) : FuncsR w fv fs := by
  obtain ⟨V, hV⟩ := h
  have htop := hV.own none trivial
  obtain ⟨x, c, hx⟩ := own_len htop
  simp only [rowF] at hx
  refine ⟨x, c, hx, fun j hj => ?_⟩
  obtain ⟨F, c1, e, h1, h2, h3, h4, h5⟩ := own_form htop (show 0 < fs.length by omega)
  simp only [rowF] at e h5
  have hp := hV.own (some (false, j)) hj
  have hq := hV.own (some (true, j)) hj
  obtain ⟨xp, cp, hxp⟩ := own_len hp
  obtain ⟨xq, cq, hxq⟩ := own_len hq
  simp only [rowF] at hxp hxq
  have hc : ∀ i, i < 5 → w.cell? ⟨F, j * 5 + i, none⟩ = (fC (nthF fs j) (V false j) (V true j))[i]? := fun i hi => by
    rw [h5 _ (by have := hj; omega), cellsF_get fs V _ j i hj hi]
  rw [hxp, hxq] at hc
  rw [hx] at e
  injection e with e _ _
  simp only [rowF, RowX.own] at hp
  rw [hxp] at hp
  refine ⟨F, xp, cp, xq, cq, e, h2, hc 0 (by omega), hc 1 (by omega), hc 2 (by omega), hc 3 (by omega), hc 4 (by omega), View.ofOwn hp rfl, fun k hk => ?_⟩
  obtain ⟨G, c2, e2, k1, k2, k3, k4, k5⟩ := own_form hq (show 0 < _ by exact Nat.lt_of_le_of_lt (Nat.zero_le k) hk)
  simp only [rowF] at e2 k5
  rw [hxq] at e2
  injection e2 with e2 _ _
  have hc2 : ∀ i, i < 3 → w.cell? ⟨G, k * 3 + i, none⟩ = (bC (nthB (nthF fs j).2.2.2.1 k))[i]? := fun i hi => by
    rw [k5 _ (by have := hk; omega), bC_get _ k i hk hi]
  exact ⟨G, e2, k2, hc2 0 (by omega), hc2 1 (by omega), hc2 2 (by omega)⟩
theorem FuncsR.nil (w : World) : FuncsR w (.slice none 0 0) [] := ⟨none, 0, rfl, fun j hj => absurd hj (Nat.not_lt_zero j)⟩
theorem FuncsR.below {w w' : World} {v : Value} {fs : List FuncT} (h : FuncsR w v fs) (hb : Below w.heap.size w w') : FuncsR w' v fs := by
  obtain ⟨x, c, hx, h⟩ := h
  refine ⟨x, c, hx, fun j hj => ?_⟩
  obtain ⟨F, xp, cp, xq, cq, e, h2, q0, q1, q2, q3, q4, hv, hk⟩ := h j hj
  refine ⟨F, xp, cp, xq, cq, e, Nat.lt_of_lt_of_le h2 hb.size, (hb.cell (p := ⟨F, j * 5, none⟩) h2).trans q0, (hb.cell (p := ⟨F, j * 5 + 1, none⟩) h2).trans q1, (hb.cell (p := ⟨F, j * 5 + 2, none⟩) h2).trans q2, (hb.cell (p := ⟨F, j * 5 + 3, none⟩) h2).trans q3, (hb.cell (p := ⟨F, j * 5 + 4, none⟩) h2).trans q4, hv.below hb, fun k hkk => ?_⟩
  obtain ⟨G, e2, k2, t0, t1, t2⟩ := hk k hkk
  exact ⟨G, e2, Nat.lt_of_lt_of_le k2 hb.size, (hb.cell (p := ⟨G, k * 3, none⟩) k2).trans t0, (hb.cell (p := ⟨G, k * 3 + 1, none⟩) k2).trans t1, (hb.cell (p := ⟨G, k * 3 + 2, none⟩) k2).trans t2⟩
/-- Few functions, parameters and blocks. -/
def FewF (fs : List FuncT) : Prop := fs.length ≤ 1048576 ∧ ∀ j, (nthF fs j).2.2.1.length ≤ 1048576 ∧ (nthF fs j).2.2.2.1.length ≤ 1048576

set_option maxHeartbeats 16000000 in
theorem sameFuncs_true (va vb : Value) (fs : List FuncT) (w : World) (ha : FuncsR w va fs) (hb : FuncsR w vb fs) (hf : FewF fs) :
    Calls Try.prog 10 #[va, vb] w fun e w' => e = .returned (.bool true) ∧ Below w.heap.size w w' := by
  have HA := hide ha
  have HB := hide hb
  obtain ⟨xa, ca, rfl, _⟩ := ha
  obtain ⟨xb, cb, rfl, _⟩ := hb
  have HFW := hide hf
  have hfl := hf.1
  clear hf
  generalize hm : fs.length = m at *
  have HM := hide hm
  clear hm
  go_enter Try.func10, Try.ntmps10
  go_wp2_with fail
  go_loopw [5] (fun i wr => ∃ j : Nat, j ≤ m ∧ i = .int .i64 j ∧ Below w.heap.size w wr) (fun i _ => m - (intOf i).toNat)
  case atStart => exact ⟨0, Nat.zero_le _, rfl, Below.refl _ _⟩
  case round =>
    obtain ⟨j, hj, rfl, hbr⟩ := hrel
    rename World => wo
    have HBR := hide hbr
    by_cases hlt : j < m
    · have HLT := hide hlt
      obtain ⟨_, _, e1, hA⟩ := HA.out.below hbr
      obtain ⟨_, _, e2, hB⟩ := HB.out.below hbr
      injection e1 with e1 _ _
      injection e2 with e2 _ _
      obtain ⟨F, xp, cp, xq, cq, hx, hF, q0, q1, q2, q3, q4, hvp, hbk⟩ := hA j (by rw [HM.out]; exact hlt)
      obtain ⟨F', xp', cp', xq', cq', hx', hF', q0', q1', q2', q3', q4', hvp', hbk'⟩ := hB j (by rw [HM.out]; exact hlt)
      rw [← e1] at hx
      rw [← e2] at hx'
      subst hx hx'
      have hfp := (HFW.out.2 j).1
      have hfb := (HFW.out.2 j).2
      clear e1 e2 hA hB
      generalize nthF fs j = fn at *
      obtain ⟨fid, fat, fps, fbs, fen⟩ := fn
      simp only at *
      have HBK := hide hbk
      have HBK' := hide hbk'
      have hj0 : (0 : Int) ≤ (j : Int) := by omega
      have hji : (j : Int) < (m : Int) := by omega
      have f0 := fun s : InC (Below wo.heap.size wo) => s.cell (p := ⟨F, j * 5, none⟩) hF q0
      have f1 := fun s : InC (Below wo.heap.size wo) => s.cell (p := ⟨F, j * 5 + 1, none⟩) hF q1
      have f2 := fun s : InC (Below wo.heap.size wo) => s.cell (p := ⟨F, j * 5 + 2, none⟩) hF q2
      have f3 := fun s : InC (Below wo.heap.size wo) => s.cell (p := ⟨F, j * 5 + 3, none⟩) hF q3
      have f4 := fun s : InC (Below wo.heap.size wo) => s.cell (p := ⟨F, j * 5 + 4, none⟩) hF q4
      have g0 := fun s : InC (Below wo.heap.size wo) => s.cell (p := ⟨F', j * 5, none⟩) hF' q0'
      have g1 := fun s : InC (Below wo.heap.size wo) => s.cell (p := ⟨F', j * 5 + 1, none⟩) hF' q1'
      have g2 := fun s : InC (Below wo.heap.size wo) => s.cell (p := ⟨F', j * 5 + 2, none⟩) hF' q2'
      have g3 := fun s : InC (Below wo.heap.size wo) => s.cell (p := ⟨F', j * 5 + 3, none⟩) hF' q3'
      have g4 := fun s : InC (Below wo.heap.size wo) => s.cell (p := ⟨F', j * 5 + 4, none⟩) hF' q4'
      have hI := fun s : InC (Below wo.heap.size wo) => Calls.inC_drew s (ints_true xp xp' fps.length cp cp' fps s.w (hvp.below s.ok) (hvp'.below s.ok) rfl (by omega))
      have hne : Nonempty (InC (Below wo.heap.size wo)) := ⟨⟨wo, Below.refl _ _⟩⟩
      have HQ3 := hide q3
      have HQ3' := hide q3'
      generalize hpl : fps.length = pl at *
      generalize hbl : fbs.length = bl at *
      clear q0 q1 q2 q3 q4 q0' q1' q2' q3' q4' hvp hvp' hbk hbk' hbr hpl
      have HBL := hide hbl
      clear hbl
      go_wp2_with fail
      refine wp_norm ?_
      refine wp_region_class (C := Below wo.heap.size wo) (by kernel_rfl) (by kernel_rfl) (below_drew wo) ?_
      simp only [List.append_eq, List.cons_append, List.nil_append]
      repeat (go_big_quiet_step ((go_at_call 22; exact hI _)))
      refine wpQuiet_nil ?_
      rintro _ ⟨sv, rfl⟩
      have HVW := hide sv.ok
      clear hne f0 f1 f2 f3 f4 g0 g1 g2 g3 g4 hI
      generalize sv.w = V at *
      rw [onNormal_normal]
      go_wp2_with fail
      go_loopw [6] (fun i wr => ∃ k : Nat, k ≤ bl ∧ i = .int .i64 k ∧ Below wo.heap.size wo wr) (fun i _ => bl - (intOf i).toNat)
      case atStart => exact ⟨0, Nat.zero_le _, rfl, HVW.out⟩
      case round =>
        obtain ⟨k, hk, rfl, hbq⟩ := hrel
        have HBQ := hide hbq
        have c3 := (hbq.cell (p := ⟨F, j * 5 + 3, none⟩) hF).trans HQ3.out
        have c3' := (hbq.cell (p := ⟨F', j * 5 + 3, none⟩) hF').trans HQ3'.out
        have hFr : F < wr.heap.size := Nat.lt_of_lt_of_le hF hbq.size
        have hFr' : F' < wr.heap.size := Nat.lt_of_lt_of_le hF' hbq.size
        by_cases hlt2 : k < bl
        · have HLT2 := hide hlt2
          obtain ⟨G, hx, hG, t0, t1, t2⟩ := HBK.out k hlt2
          obtain ⟨G', hx', hG', t0', t1', t2'⟩ := HBK'.out k hlt2
          have hk0 : (0 : Int) ≤ (k : Int) := by omega
          have hki : (k : Int) < (bl : Int) := by omega
          replace t0 := (hbq.cell (p := ⟨G, k * 3, none⟩) hG).trans t0
          replace t1 := (hbq.cell (p := ⟨G, k * 3 + 1, none⟩) hG).trans t1
          replace t2 := (hbq.cell (p := ⟨G, k * 3 + 2, none⟩) hG).trans t2
          replace t0' := (hbq.cell (p := ⟨G', k * 3, none⟩) hG').trans t0'
          replace t1' := (hbq.cell (p := ⟨G', k * 3 + 1, none⟩) hG').trans t1'
          replace t2' := (hbq.cell (p := ⟨G', k * 3 + 2, none⟩) hG').trans t2'
          subst hx hx'
          clear hbq
          generalize nthB fbs k = bn at *
          obtain ⟨bid, bfr, bto⟩ := bn
          simp only at *
          go_wp2_with fail
          go_quiet (fail)
          have hdr : Below wr.heap.size wr (wr.drewN nq) := ⟨rfl, rfl, rfl, Nat.le_refl _, fun _ _ => rfl⟩
          have HB9 := hide (HBQ.out.trans (hdr.mono HBQ.out.size))
          clear t0 t1 t2 t0' t1' t2' c3 c3' hdr
          go_wp2_with fail
          go_roundw
          case rel => exact ⟨k + 1, by omega, by go_num, HB9.out⟩
          case measure => simp [intOf]; omega
        · obtain rfl : k = bl := by omega
          have HB9 := hide (HBR.out.trans (HBQ.out.mono HBR.out.size))
          clear hbq
          go_wp2_with fail
          go_roundw
          case rel => exact ⟨j + 1, by omega, by go_num, HB9.out⟩
          case measure => simp [intOf]; omega
    · obtain rfl : j = m := by omega
      clear hbr
      go_wp2_with fail
      go_ret
      exact ⟨rfl, HBR.out⟩

end Go.Proofs.Ytcckepjpehjijaa

/-
  A map by words, with numbers in it, as a function of its keys.
-/
namespace Go.Proofs.Ytcckepjpehjijaa
open Go.RowKit Go.Maps
set_option linter.unusedVariables false
set_option linter.unusedSimpArgs false
set_option maxRecDepth 10000

theorem keyU : Keyed Try.prog 22 := int_keyed Try.underlying22
theorem keyU_of {x : Int} (h0 : 0 ≤ x) (h1 : x < 4294967296) : keyOf Try.prog 22 (.int .u32 x) = some (.int .u32 x) := keyOf_int_mk Try.underlying22 (by simp [Lit.wf, show IntKind.u32.min = 0 from rfl, show IntKind.u32.max = 4294967295 from rfl]; omega)

/-- Block b is a map of at most n entries: at the key x stands f x. -/
def MapU (w : World) (E : TypeId) (q : IntKind) (b n : Nat) (f : Int → Option Int) : Prop :=
  ∃ D : DataW Unit, w.ownsMap Try.prog 22 (plainElem Try.prog E) b n D ∧ (∀ x, Maps.has D (.int .u32 x) = (f x).isSome) ∧ ∀ x, D.atKey (.int .u32 x) (.lit (.int q 0)) = .lit (.int q ((f x).getD 0))
theorem MapU.made (w : World) (E : TypeId) (q : IntKind) : MapU (w.alloc (.map #[] 0)) E q w.heap.size 0 (fun _ => none) :=
  ⟨.map [], World.ownsMap_made _ _ _ _, fun x => rfl, fun x => rfl⟩
theorem MapU.lt {w : World} {E : TypeId} {q : IntKind} {b n : Nat} {f : Int → Option Int} (h : MapU w E q b n f) : b < w.heap.size := by obtain ⟨D, h1, _⟩ := h; exact h1.lt
theorem MapU.below {w w' : World} {E : TypeId} {q : IntKind} {b n : Nat} {f : Int → Option Int} (h : MapU w E q b n f) (hb : Below w.heap.size w w') : MapU w' E q b n f := by
  have hl := h.lt
  obtain ⟨D, ⟨es, ck, h1, h2⟩, h3⟩ := h
  exact ⟨D, ⟨es, ck, (hb.block b hl).trans h1, h2⟩, h3⟩
theorem MapU.block {w w' : World} {E : TypeId} {q : IntKind} {b n : Nat} {f : Int → Option Int} (h : MapU w E q b n f) (hb : w'.heap[b]? = w.heap[b]?) : MapU w' E q b n f := by
  obtain ⟨D, ⟨es, ck, h1, h2⟩, h3⟩ := h
  exact ⟨D, ⟨es, ck, hb.trans h1, h2⟩, h3⟩
theorem MapU.mono {w : World} {E : TypeId} {q : IntKind} {b n n' : Nat} {f : Int → Option Int} (h : MapU w E q b n f) (hn : n ≤ n') : MapU w E q b n' f := by
  obtain ⟨D, h1, h2⟩ := h
  exact ⟨D, h1.mono hn, h2⟩
theorem MapU.congr {w : World} {E : TypeId} {q : IntKind} {b n : Nat} {f g : Int → Option Int} (h : MapU w E q b n f) (e : ∀ x, f x = g x) : MapU w E q b n g := by
  have : f = g := funext e
  rw [← this]; exact h
theorem MapU.put {w' : World} {E : TypeId} {q : IntKind} {b n' : Nat} {f : Int → Option Int} {D : DataW Unit} {x v : Int} (hD : IsMap D) (h1 : ∀ x, Maps.has D (.int .u32 x) = (f x).isSome) (h2 : ∀ x, D.atKey (.int .u32 x) (.lit (.int q 0)) = .lit (.int q ((f x).getD 0)))
    (h : w'.ownsMap Try.prog 22 (plainElem Try.prog E) b n' (D.put (.int .u32 x) (.lit (.int q v)))) : MapU w' E q b n' (fun y => if y = x then some v else f y) := by
  refine ⟨_, h, fun y => ?_, fun y => ?_⟩
  · show _ = (if y = x then some v else f y).isSome
    by_cases e : y = x
    · subst e; rw [if_pos rfl]; exact has_put_same (k := .int .u32 y) hD (by simp [WideAt.IsKeyLit]) _
    · rw [if_neg e, ← h1 y]; exact has_put_other (by simpa using e) _
  · show _ = DataW.lit (.int q ((if y = x then some v else f y).getD 0))
    by_cases e : y = x
    · subst e; rw [if_pos rfl]; exact atKey_put_same (k := .int .u32 y) hD (by simp [WideAt.IsKeyLit]) _ _
    · rw [if_neg e, ← h2 y]; exact atKey_put_other (by simpa using e) _ _

section
variable {w : World} {ops : Array Oper} {rest : List Oper} {o : Oper} {a : Act} {Q : Exit → Act → World → Prop}
/-- 'v, ok := m[x]'. -/
theorem wpList_lookU_ok (hg : o.guard = none) (m x : Operand) (t : TypeId) (hop : o.op = Op.lookup t m x true) (E : TypeId) (q : IntKind) (ht : Try.prog.underlying t = some (.map 22 E)) (he : Try.prog.underlying E = some (.int q)) (hz : (zeroValue E).run Try.prog w = .ok (.int q 0) w)
    (b n : Nat) (f : Int → Option Int) (hm : a.eval m = .map (some b)) (h : MapU w E q b n f) (key : Int) (hx : a.eval x = .int .u32 key) (k0 : 0 ≤ key) (k1 : key < 4294967296)
    (hK : wpList Try.prog ops Q rest (a.put o.dst (.tuple #[.int q ((f key).getD 0), .bool (f key).isSome])) w) : wpList Try.prog ops Q (o :: rest) a w := by
  obtain ⟨D, h1, h2, h3⟩ := h
  refine wpList_lookup_own_ok_int w hg m x t hop 22 E q keyU ht he hz b n D hm h1 _ _ hx (keyU_of k0 k1) ?_
  intro c hat _
  rw [h3] at hat
  simp only [DataW.lit.injEq, Lit.int.injEq, true_and] at hat
  rw [← hat, h2]
  exact hK
/-- 'v := m[x]'. -/
theorem wpList_lookU (hg : o.guard = none) (m x : Operand) (t : TypeId) (hop : o.op = Op.lookup t m x false) (E : TypeId) (q : IntKind) (ht : Try.prog.underlying t = some (.map 22 E)) (he : Try.prog.underlying E = some (.int q)) (hz : (zeroValue E).run Try.prog w = .ok (.int q 0) w)
    (b n : Nat) (f : Int → Option Int) (hm : a.eval m = .map (some b)) (h : MapU w E q b n f) (key : Int) (hx : a.eval x = .int .u32 key) (k0 : 0 ≤ key) (k1 : key < 4294967296)
    (hK : wpList Try.prog ops Q rest (a.put o.dst (.int q ((f key).getD 0))) w) : wpList Try.prog ops Q (o :: rest) a w := by
  obtain ⟨D, h1, h2, h3⟩ := h
  refine wpList_lookup_own_int w hg m x t hop 22 E q keyU ht he hz b n D hm h1 _ _ hx (keyU_of k0 k1) ?_
  intro c hat _
  rw [h3] at hat
  simp only [DataW.lit.injEq, Lit.int.injEq, true_and] at hat
  rw [← hat]
  exact hK
/-- 'm[x] = v'. -/
theorem wpList_putU (hg : o.guard = none) (m x v : Operand) (t : TypeId) (hop : o.op = Op.mapUpdate t m x v) (E : TypeId) (q : IntKind) (ht : Try.prog.underlying t = some (.map 22 E)) (he : Try.prog.underlying E = some (.int q))
    (b n : Nat) (f : Int → Option Int) (hm : a.eval m = .map (some b)) (h : MapU w E q b n f) (hn : n < maxLen) (key val : Int) (hx : a.eval x = .int .u32 key) (k0 : 0 ≤ key) (k1 : key < 4294967296) (hv : a.eval v = .int q val) (hw : (Lit.int q val).wf = true)
    (hK : ∀ w', MapU w' E q b (n + 1) (fun y => if y = key then some val else f y) → w.grownBy w' (some b) → wpList Try.prog ops Q rest (a.put o.dst undef) w') : wpList Try.prog ops Q (o :: rest) a w := by
  obtain ⟨D, h1, h2, h3⟩ := h
  refine wpList_mapUpdate_own w hg m x v t hop 22 E keyU ht _ b n D hm h1 hn _ _ _ hx hv (keyU_of k0 k1) _ [] (plainElem_int he hw) ?_
  intro w' h4 h5
  exact hK w' (MapU.put h1.isMap h2 h3 h4) h5
end

end Go.Proofs.Ytcckepjpehjijaa

/-
  makersOf of the package ids: a map from each id that is made to the least place at which it is made; the document's Maker.
-/
namespace Go.Proofs.Ytcckepjpehjijaa
open Go.RowKit Go.Maps
set_option linter.unusedVariables false
set_option linter.unusedSimpArgs false
set_option maxRecDepth 10000

/-- The least place below k at which an id is made. -/
def makT (l : List InstT) : Nat → Int → Option Int
  | 0, _ => none
  | k + 1, id => if (makT l k id).isSome = true then makT l k id else if (nthI l k).2.2.1 = id ∧ id ≠ 0 then some (k : Int) else none
def makV (l : List InstT) (k : Nat) (id : Int) : Int := (makT l k id).getD (-1)
theorem makT_some (l : List InstT) (id : Int) : ∀ k p, makT l k id = some p → 0 ≤ p ∧ p < (k : Int)
  | 0, p, h => by cases h
  | k + 1, p, h => by
    rw [makT] at h
    split at h
    · have := makT_some l id k p h; omega
    · split at h
      · cases h; omega
      · cases h
theorem makT_stays (l : List InstT) (id : Int) (k : Nat) (h : (makT l k id).isSome = true) : ∀ d, makT l (k + d) id = makT l k id
  | 0 => rfl
  | d + 1 => by
    have ih := makT_stays l id k h d
    rw [show k + (d + 1) = (k + d) + 1 by omega, makT, ih, if_pos h]
theorem makT_zero (l : List InstT) : ∀ k, makT l k 0 = none
  | 0 => rfl
  | k + 1 => by rw [makT, makT_zero l k]; simp

theorem zeroI64 (w : World) : (zeroValue 3).run Try.prog w = .ok (.int .i64 0) w := by kernel_rfl

end Go.Proofs.Ytcckepjpehjijaa

/-
  Whether ids are made, and where: in plain mathematics.
-/
namespace Go.Proofs.Ytcckepjpehjijaa
open Go.RowKit
set_option linter.unusedVariables false
set_option linter.unusedSimpArgs false

/-- Are all ids made among the first k? -/
def allMade (l : List InstT) (k : Nat) (zs : List Int) : Bool := zs.all fun id => (makT l k id).isSome
/-- What is wrong with the ids at a place. -/
def faultAt (l : List InstT) (k : Nat) : Int :=
  if (makT l k (nthI l k).2.2.1).isSome = true then 90
  else if allMade l l.length (idsI (nthI l k)) = false then 91
  else if partI (nthI l k) = 7 ∧ allMade l k (idsI (nthI l k)) = false then 92 else 0
def idsF (l : List InstT) : Nat → Nat → Int × Nat
  | 0, _ => (0, 0)
  | m + 1, k => if faultAt l k ≠ 0 then (faultAt l k, k) else idsF l m (k + 1)
/-- What is wrong with a module's ids. -/
def idsE (b : Int) (l : List InstT) : Int × Nat := if (layE b l).1 ≠ 0 then layE b l else idsF l l.length 0
theorem idsF_ok {l : List InstT} : ∀ (j m k : Nat), (∀ i, i < j → faultAt l (k + i) = 0) → idsF l (j + m) k = idsF l m (k + j)
  | 0, m, k, _ => by rw [Nat.zero_add, Nat.add_zero]
  | j + 1, m, k, h => by
    have h0 := h 0 (by omega)
    rw [Nat.add_zero] at h0
    rw [show j + 1 + m = (j + m) + 1 by omega, idsF, if_neg (by rw [h0]; simp), idsF_ok j m (k + 1) (fun i hi => by have := h (i + 1) (by omega); rw [show k + 1 + i = k + (i + 1) by omega]; exact this)]
    congr 1; omega
theorem idsF_at {l : List InstT} {k : Nat} (hk : k < l.length) (hok : ∀ i, i < k → faultAt l i = 0) (hf : faultAt l k ≠ 0) : idsF l l.length 0 = (faultAt l k, k) := by
  have e := idsF_ok k (l.length - k) 0 (fun i hi => by rw [Nat.zero_add]; exact hok i hi)
  rw [show k + (l.length - k) = l.length by omega, Nat.zero_add] at e
  rw [e, show l.length - k = (l.length - k - 1) + 1 by omega, idsF, if_pos hf]
theorem idsF_done {l : List InstT} (hok : ∀ i, i < l.length → faultAt l i = 0) : idsF l l.length 0 = (0, 0) := by
  have e := idsF_ok l.length 0 0 (fun i hi => by rw [Nat.zero_add]; exact hok i hi)
  rw [Nat.add_zero] at e
  rw [e]; rfl

theorem makT_cut {l : List InstT} {id p : Int} : ∀ {n k : Nat}, k ≤ n → makT l n id = some p → p < k → makT l k id = some p
  | 0, k, hk, h, _ => by cases h
  | n + 1, k, hk, h, hp => by
    by_cases e : k = n + 1
    · rw [e]; exact h
    · rw [makT] at h
      split at h
      · exact makT_cut (by omega) h hp
      · split at h
        · cases h; omega
        · cases h
/-- The first maker stands ahead of a place just if there is one ahead. -/
theorem makT_ahead {l : List InstT} {id p : Int} {n k : Nat} (hk : k ≤ n) (h : makT l n id = some p) : (makT l k id).isSome = decide (p < (k : Int)) := by
  by_cases hp : p < (k : Int)
  · rw [makT_cut hk h hp]; simp [hp]
  · cases hm : makT l k id with
    | none => simp [hp]
    | some q =>
      have h1 := makT_stays l id k (by rw [hm]; rfl) (n - k)
      rw [show k + (n - k) = n by omega, hm, h] at h1
      cases h1
      have := (makT_some l id k p hm).2
      exact absurd this hp
theorem makT_own {l : List InstT} {k : Nat} (hk : k < l.length) (h0 : (nthI l k).2.2.1 ≠ 0) : ∃ p, makT l l.length (nthI l k).2.2.1 = some p := by
  have h1 : (makT l (k + 1) (nthI l k).2.2.1).isSome = true := by
    rw [makT]
    split
    · assumption
    · rw [if_pos ⟨rfl, h0⟩]; rfl
  have h2 := makT_stays l _ (k + 1) h1 (l.length - (k + 1))
  rw [show k + 1 + (l.length - (k + 1)) = l.length by omega] at h2
  obtain ⟨p, hp⟩ := Option.isSome_iff_exists.1 h1
  exact ⟨p, by rw [h2, hp]⟩

theorem okTo_sorted {l : List InstT} {n i j : Nat} (h : okTo l n) (hij : i ≤ j) (hj : j < n) : partI (nthI l i) ≤ partI (nthI l j) := by
  by_cases e : i = j
  · rw [e]; exact Int.le_refl _
  · have hm := h j hj
    rcases Int.lt_or_le (partI (nthI l j)) (partI (nthI l i)) with h1 | h1
    · rw [mayL_over (by omega) h1] at hm; cases hm
    · exact h1
theorem cntP_le_of {l : List InstT} {p : Nat} : ∀ {n k : Nat}, k ≤ n → (∀ j, k ≤ j → j < n → (p : Int) ≤ partI (nthI l j)) → cntP l p n ≤ k
  | 0, k, hk, _ => by rw [cntP]; omega
  | n + 1, k, hk, h => by
    by_cases e : k = n + 1
    · have := cntP_le l p (n + 1); omega
    · have := cntP_le_of (n := n) (k := k) (by omega) (fun j h1 h2 => h j h1 (by omega))
      rw [cntP_more (h n (by omega) (by omega))]; exact this
theorem cntP_ge_of {l : List InstT} {p : Nat} : ∀ {n k : Nat}, k ≤ n → (∀ j, j < k → partI (nthI l j) < p) → k ≤ cntP l p n
  | 0, k, hk, _ => by omega
  | n + 1, k, hk, h => by
    by_cases e : k = n + 1
    · subst e; rw [cntP_all h]; exact Nat.le_refl _
    · have := cntP_ge_of (n := n) (k := k) (by omega) h
      rw [cntP]; omega
theorem span_part {l : List InstT} {n k p : Nat} (h : okTo l n) (hk : k < n) : (cntP l p n ≤ k ↔ (p : Int) ≤ partI (nthI l k)) := by
  constructor
  · intro h1
    rcases Int.lt_or_le (partI (nthI l k)) p with h2 | h2
    · have := cntP_ge_of (l := l) (p := p) (n := n) (k := k + 1) (by omega) (fun j hj => by have := okTo_sorted h (show j ≤ k by omega) hk; omega)
      omega
    · exact h2
  · intro h1
    exact cntP_le_of (by omega) (fun j hj hj2 => by have := okTo_sorted h hj hj2; omega)
theorem layE_ok {b : Int} {l : List InstT} (h : (layE b l).1 = 0) : okTo l l.length ∧ (shapeE b l).1 = 0 ∧ layE b l = (0, 0) := by
  unfold layE at h ⊢
  by_cases h1 : (shapeE b l).1 = 0
  · rw [if_neg (by simpa using h1)] at h ⊢
    have key : ∀ m k, k + m = l.length → okTo l k → (layF l m k).1 = 0 → okTo l l.length ∧ layF l m k = (0, 0) := by
      intro m
      induction m with
      | zero =>
        intro k hk hok h0
        rw [layF] at h0 ⊢
        cases hO : openE l with
        | true => rw [hO] at h0; simp at h0
        | false => rw [show l.length = k by omega]; exact ⟨hok, rfl⟩
      | succ m ih =>
        intro k hk hok h0
        rw [layF] at h0 ⊢
        cases hm : mayL l k with
        | false => rw [hm] at h0; simp at h0
        | true =>
          rw [hm, if_pos rfl] at h0
          rw [if_pos rfl]
          exact ih (k + 1) (by omega) (hok.snoc hm) h0
    obtain ⟨q1, q2⟩ := key l.length 0 (by omega) (okTo_zero l) h
    exact ⟨q1, h1, q2⟩
  · rw [if_pos h1] at h; exact absurd h h1
theorem idsA_range {x : InstT} (h : InstOk x) : ∀ id ∈ idsI x, 0 ≤ id ∧ id < 4294967296 := by
  obtain ⟨_, _, h1, h2, _, _, h3, _⟩ := h
  intro id hid
  unfold idsI idsTo at hid
  rw [List.take_length] at hid
  rcases List.mem_append.1 hid with h | h
  · split at h
    · cases h
    · rw [List.mem_singleton] at h; subst h; exact ⟨h1, h2⟩
  · obtain ⟨y, hy, hi⟩ := List.mem_flatMap.1 h
    obtain ⟨j, hj, rfl⟩ := List.getElem_of_mem hy
    have hk := h3 j hj
    rw [show nthA x.2.2.2 j = x.2.2.2[j] by simp [nthA, List.getD, hj]] at hk
    unfold idsA at hi
    split at hi
    · rw [List.mem_singleton] at hi; subst hi; exact ⟨hk.2.2.1, hk.2.2.2.1⟩
    · cases hi
/-- What the loop over the ids of a place has found, with the first j of them. -/
def aheadJ (l : List InstT) (k j : Nat) : Bool := decide (partI (nthI l k) = 7) && !allMade l k ((idsI (nthI l k)).take j)
theorem allMade_snoc (l : List InstT) (k : Nat) (zs : List Int) (j : Nat) (hj : j < zs.length) : allMade l k (zs.take (j + 1)) = (allMade l k (zs.take j) && (makT l k (nth zs j)).isSome) := by
  unfold allMade
  rw [List.take_add_one, List.all_append, List.getElem?_eq_getElem hj]
  simp [nth, List.getD, hj]
theorem fault_first {l : List InstT} {k : Nat} (h : (makT l k (nthI l k).2.2.1).isSome = true) : faultAt l k = 90 := by unfold faultAt; rw [if_pos h]
theorem allMade_false {l : List InstT} {k : Nat} {zs : List Int} {j : Nat} (hj : j < zs.length) (h : (makT l k (nth zs j)).isSome = false) : allMade l k zs = false := by
  unfold allMade
  rw [List.all_eq_false]
  refine ⟨nth zs j, ?_, by rw [h]; simp⟩
  simp only [nth, List.getD, List.getElem?_eq_getElem hj]
  exact List.getElem_mem hj
theorem fault_unknown {l : List InstT} {k j : Nat} (h : (makT l k (nthI l k).2.2.1).isSome = false) (hj : j < (idsI (nthI l k)).length) (hn : (makT l l.length (nth (idsI (nthI l k)) j)).isSome = false) : faultAt l k = 91 := by
  unfold faultAt; rw [if_neg (by rw [h]; simp), if_pos (allMade_false hj hn)]
theorem faultAt_end {l : List InstT} {k : Nat} (h : (makT l k (nthI l k).2.2.1).isSome = false) (hall : allMade l l.length ((idsI (nthI l k)).take (idsI (nthI l k)).length) = true) : faultAt l k = if aheadJ l k (idsI (nthI l k)).length = true then 92 else 0 := by
  rw [List.take_length] at hall
  unfold faultAt aheadJ
  rw [if_neg (by rw [h]; simp), if_neg (by rw [hall]; simp), List.take_length]
  by_cases h7 : partI (nthI l k) = 7 <;> cases allMade l k (idsI (nthI l k)) <;> simp [h7]
end Go.Proofs.Ytcckepjpehjijaa

/-
  The function and the block in which a place stands: the first that has it; in plain mathematics.
-/
namespace Go.Proofs.Ytcckepjpehjijaa
open Go.RowKit
set_option linter.unusedVariables false

/-- The first of m that has it; -1: none. -/
def FirstI (p : Nat → Prop) (m : Nat) (r : Int) : Prop := (∃ j : Nat, j < m ∧ r = (j : Int) ∧ p j ∧ ∀ i, i < j → ¬ p i) ∨ (r = -1 ∧ ∀ i, i < m → ¬ p i)
theorem FirstI.uniq {p : Nat → Prop} {m : Nat} {r s : Int} (h : FirstI p m r) (k : FirstI p m s) : r = s := by
  rcases h with ⟨j, h1, rfl, h2, h3⟩ | ⟨rfl, h1⟩
  · rcases k with ⟨i, k1, rfl, k2, k3⟩ | ⟨rfl, k1⟩
    · have : j = i := by
        rcases Nat.lt_trichotomy j i with e | e | e
        · exact absurd h2 (k3 j e)
        · exact e
        · exact absurd k2 (h3 i e)
      rw [this]
    · exact absurd h2 (k1 j h1)
  · rcases k with ⟨i, k1, rfl, k2, k3⟩ | ⟨rfl, k1⟩
    · exact absurd k2 (h1 i k1)
    · rfl
def inFn (fs : List FuncT) (at_ : Int) (j : Nat) : Prop := (nthF fs j).2.1 ≤ at_ ∧ at_ ≤ (nthF fs j).2.2.2.2
def inBl (bs : List (Int × Int × Int)) (at_ : Int) (k : Nat) : Prop := (nthB bs k).2.1 ≤ at_ ∧ at_ < (nthB bs k).2.2
/-- What Owner answers: the function, the block, what is wrong, where. -/
def OwnerR (b : Int) (l : List InstT) (at_ : Int) (f d e1 e2 : Int) : Prop :=
  ((layE b l).1 ≠ 0 ∧ f = 0 ∧ d = 0 ∧ e1 = (layE b l).1 ∧ e2 = ((layE b l).2 : Int)) ∨
  ((layE b l).1 = 0 ∧ (at_ < 0 ∨ (l.length : Int) ≤ at_) ∧ f = 0 ∧ d = 0 ∧ e1 = 3 ∧ e2 = 0) ∨
  ((layE b l).1 = 0 ∧ 0 ≤ at_ ∧ at_ < (l.length : Int) ∧ e1 = 0 ∧ e2 = 0 ∧ FirstI (inFn (cutTo l l.length) at_) (cutTo l l.length).length f ∧ (f = -1 ∧ d = -1 ∨ ∃ j : Nat, f = (j : Int) ∧ FirstI (inBl (nthF (cutTo l l.length) j).2.2.2.1 at_) (nthF (cutTo l l.length) j).2.2.2.1.length d))
theorem OwnerR.uniq {b : Int} {l : List InstT} {at_ f d e1 e2 f' d' e1' e2' : Int} (h : OwnerR b l at_ f d e1 e2) (k : OwnerR b l at_ f' d' e1' e2') : f = f' ∧ d = d' ∧ e1 = e1' ∧ e2 = e2' := by
  rcases h with ⟨h0, rfl, rfl, rfl, rfl⟩ | ⟨h0, h1, rfl, rfl, rfl, rfl⟩ | ⟨h0, h1, h2, rfl, rfl, h3, h4⟩
  · rcases k with ⟨k0, rfl, rfl, rfl, rfl⟩ | ⟨k0, _⟩ | ⟨k0, _⟩
    · exact ⟨rfl, rfl, rfl, rfl⟩
    · exact absurd k0 h0
    · exact absurd k0 h0
  · rcases k with ⟨k0, _⟩ | ⟨k0, k1, rfl, rfl, rfl, rfl⟩ | ⟨k0, k1, k2, _⟩
    · exact absurd h0 k0
    · exact ⟨rfl, rfl, rfl, rfl⟩
    · exact h1.elim (fun h => absurd k1 (Int.not_le.2 h)) (fun h => absurd k2 (Int.not_lt.2 h))
  · rcases k with ⟨k0, _⟩ | ⟨k0, k1, _⟩ | ⟨k0, k1, k2, rfl, rfl, k3, k4⟩
    · exact absurd h0 k0
    · exact k1.elim (fun h => absurd h1 (Int.not_le.2 h)) (fun h => absurd h2 (Int.not_lt.2 h))
    · obtain rfl := h3.uniq k3
      refine ⟨rfl, ?_, rfl, rfl⟩
      rcases h4 with ⟨rfl, rfl⟩ | ⟨j, rfl, h5⟩
      · rcases k4 with ⟨_, rfl⟩ | ⟨i, e, _⟩
        · rfl
        · exact absurd e (by omega)
      · rcases k4 with ⟨e, _⟩ | ⟨i, e, k5⟩
        · exact absurd e (by omega)
        · obtain rfl : j = i := Int.ofNat.inj e
          exact h5.uniq k5
end Go.Proofs.Ytcckepjpehjijaa

/-
  The closures of Owner of the package layout, and slices.IndexFunc with them.
-/
namespace Go.Proofs.Ytcckepjpehjijaa
open Go.RowKit
set_option linter.unusedVariables false
set_option linter.unusedSimpArgs false
set_option maxRecDepth 10000

set_option maxHeartbeats 4000000 in
theorem owner1_any (id x y at_ : Int) (P Q : Option Addr) (np cp nq cq B : Nat) (w : World) (hB : B < w.heap.size) (hc : w.cell? ⟨B, 0, none⟩ = some (.int .i64 at_)) :
    Calls Try.prog 24 #[.agg #[.int .u32 id, .int .i64 x, .slice P np cp, .slice Q nq cq, .int .i64 y], .pointer (some ⟨B, 0, none⟩)] w fun e w' => e = .returned (.bool (decide (x ≤ at_ ∧ at_ ≤ y))) ∧ Below w.heap.size w w' := by
  have hb : Below w.heap.size w (w.alloc (.cells #[.int .u32 id, .int .i64 x, .slice P np cp, .slice Q nq cq, .int .i64 y] 39)) := (Below.refl _ w).alloc (Nat.le_refl _) _
  have HB := hide hb
  have c0 := (hb.cell (p := ⟨B, 0, none⟩) hB).trans hc
  clear hb
  by_cases h1 : x ≤ at_
  · by_cases h2 : at_ ≤ y
    · have hd : decide (x ≤ at_ ∧ at_ ≤ y) = true := by simp [h1, h2]
      rw [hd]
      go_enter Try.func24, Try.ntmps24
      go_wp2_with fail
      go_ret
      exact ⟨rfl, HB.out⟩
    · have hd : decide (x ≤ at_ ∧ at_ ≤ y) = false := by simp [h2]
      rw [hd]
      go_enter Try.func24, Try.ntmps24
      go_wp2_with fail
      go_ret
      exact ⟨rfl, HB.out⟩
  · have hd : decide (x ≤ at_ ∧ at_ ≤ y) = false := by simp [h1]
    rw [hd]
    go_enter Try.func24, Try.ntmps24
    go_wp2_with fail
    go_ret
    exact ⟨rfl, HB.out⟩

set_option maxHeartbeats 4000000 in
theorem owner2_any (id x y at_ : Int) (B : Nat) (w : World) (hB : B < w.heap.size) (hc : w.cell? ⟨B, 0, none⟩ = some (.int .i64 at_)) :
    Calls Try.prog 26 #[.agg #[.int .u32 id, .int .i64 x, .int .i64 y], .pointer (some ⟨B, 0, none⟩)] w fun e w' => e = .returned (.bool (decide (x ≤ at_ ∧ at_ < y))) ∧ Below w.heap.size w w' := by
  have hb : Below w.heap.size w (w.alloc (.cells #[.int .u32 id, .int .i64 x, .int .i64 y] 41)) := (Below.refl _ w).alloc (Nat.le_refl _) _
  have HB := hide hb
  have c0 := (hb.cell (p := ⟨B, 0, none⟩) hB).trans hc
  clear hb
  by_cases h1 : x ≤ at_
  · by_cases h2 : at_ < y
    · have hd : decide (x ≤ at_ ∧ at_ < y) = true := by simp [h1, h2]
      rw [hd]
      go_enter Try.func26, Try.ntmps26
      go_wp2_with fail
      go_ret
      exact ⟨rfl, HB.out⟩
    · have hd : decide (x ≤ at_ ∧ at_ < y) = false := by simp [h2]
      rw [hd]
      go_enter Try.func26, Try.ntmps26
      go_wp2_with fail
      go_ret
      exact ⟨rfl, HB.out⟩
  · have hd : decide (x ≤ at_ ∧ at_ < y) = false := by simp [h1]
    rw [hd]
    go_enter Try.func26, Try.ntmps26
    go_wp2_with fail
    go_ret
    exact ⟨rfl, HB.out⟩

set_option maxHeartbeats 8000000 in
theorem idxFuncs_any (fv : Value) (fs : List FuncT) (at_ : Int) (B : Nat) (w : World) (hr : FuncsR w fv fs) (hfl : fs.length ≤ 1048576) (hB : B < w.heap.size) (hc : w.cell? ⟨B, 0, none⟩ = some (.int .i64 at_)) :
    Calls Try.prog 23 #[fv, .func (.func 24) #[] #[.pointer (some ⟨B, 0, none⟩)]] w fun e w' => ∃ r, e = .returned (.int .i64 r) ∧ FirstI (inFn fs at_) fs.length r ∧ Below w.heap.size w w' := by
  have HR := hide hr
  have HC := hide hc
  obtain ⟨x, c, rfl, _⟩ := hr
  clear hc
  go_enter Try.func23, Try.ntmps23
  go_wp2_with fail
  go_loopw [8] (fun i wr => ∃ j : Nat, j ≤ fs.length ∧ i = .int .i64 j ∧ (∀ i, i < j → ¬ inFn fs at_ i) ∧ Below w.heap.size w wr) (fun i _ => fs.length - (intOf i).toNat)
  case atStart => exact ⟨0, Nat.zero_le _, rfl, fun i h => absurd h (Nat.not_lt_zero i), Below.refl _ _⟩
  case round =>
    obtain ⟨j, hj, rfl, hno, hbr⟩ := hrel
    have HNO := hide hno
    have HBR := hide hbr
    by_cases hlt : j < fs.length
    · have HLT := hide hlt
      obtain ⟨_, _, e1, hA⟩ := HR.out.below hbr
      injection e1 with e1 e2 e3
      obtain ⟨F, xp, cp, xq, cq, hx, hF, q0, q1, q2, q3, q4, _, _⟩ := hA j hlt
      have hx2 := e1.trans hx
      have HIN : Hid (inFn fs at_ j ↔ (nthF fs j).2.1 ≤ at_ ∧ at_ ≤ (nthF fs j).2.2.2.2) := Iff.rfl
      have hj0 : (0 : Int) ≤ (j : Int) := by omega
      have hji : (j : Int) < (fs.length : Int) := by omega
      have hcl := fun (wx : World) (h : Below wr.heap.size wr wx) => owner1_any (nthF fs j).1 (nthF fs j).2.1 (nthF fs j).2.2.2.2 at_ xp xq (nthF fs j).2.2.1.length cp (nthF fs j).2.2.2.1.length cq B wx (Nat.lt_of_lt_of_le (Nat.lt_of_lt_of_le hB hbr.size) h.size) (((hbr.trans (h.mono hbr.size)).cell (p := ⟨B, 0, none⟩) hB).trans HC.out)
      subst hx2
      clear e1 e2 e3 hx hA hbr hno
      generalize nthF fs j = fn at *
      obtain ⟨fid, fat, fps, fbs, fen⟩ := fn
      simp only at *
      generalize hm : fs.length = m at *
      have HM := hide hm
      clear hm
      have hc1 := hcl wr (Below.refl _ _)
      clear hcl
      go_wp2_with fail
      refine hc1.mono ?_
      rintro e w2 ⟨rfl, hb2⟩
      have HB2 := hide (HBR.out.trans (hb2.mono HBR.out.size))
      clear hc1 hb2 q0 q1 q2 q3 q4
      by_cases hin : fat ≤ at_ ∧ at_ ≤ fen
      · have hd : decide (fat ≤ at_ ∧ at_ ≤ fen) = true := by simpa using hin
        rw [hd]
        clear hd
        go_wp2_with fail
        go_ret
        exact ⟨_, rfl, .inl ⟨j, by rw [HM.out]; exact HLT.out, rfl, HIN.out.2 hin, HNO.out⟩, HB2.out⟩
      · have hd : decide (fat ≤ at_ ∧ at_ ≤ fen) = false := by simpa using hin
        rw [hd]
        have HIN2 : Hid (¬ inFn fs at_ j) := fun h => hin (HIN.out.1 h)
        clear hd hin
        go_wp2_with fail
        go_roundw
        case rel => exact ⟨j + 1, by omega, by go_num, fun i hi => by by_cases e : i = j; exact e ▸ HIN2.out; exact HNO.out i (by omega), HB2.out⟩
        case measure => simp [intOf]; omega
    · obtain rfl : j = fs.length := by omega
      clear hno hbr
      go_wp2_with fail
      go_ret
      exact ⟨_, rfl, .inr ⟨rfl, HNO.out⟩, HBR.out⟩

set_option maxHeartbeats 8000000 in
theorem idxBlocks_any (xq : Option Addr) (cq : Nat) (bs : List (Int × Int × Int)) (at_ : Int) (B : Nat) (w : World) (hr : ∀ k, k < bs.length → ∃ G, xq = some ⟨G, 0, none⟩ ∧ G < w.heap.size ∧ w.cell? ⟨G, k * 3, none⟩ = some (.int .u32 (nthB bs k).1) ∧ w.cell? ⟨G, k * 3 + 1, none⟩ = some (.int .i64 (nthB bs k).2.1) ∧ w.cell? ⟨G, k * 3 + 2, none⟩ = some (.int .i64 (nthB bs k).2.2)) (hfl : bs.length ≤ 1048576) (hB : B < w.heap.size) (hc : w.cell? ⟨B, 0, none⟩ = some (.int .i64 at_)) :
    Calls Try.prog 25 #[.slice xq bs.length cq, .func (.func 26) #[] #[.pointer (some ⟨B, 0, none⟩)]] w fun e w' => ∃ r, e = .returned (.int .i64 r) ∧ FirstI (inBl bs at_) bs.length r ∧ Below w.heap.size w w' := by
  have HR := hide hr
  have HC := hide hc
  clear hc hr
  go_enter Try.func25, Try.ntmps25
  go_wp2_with fail
  go_loopw [8] (fun i wr => ∃ j : Nat, j ≤ bs.length ∧ i = .int .i64 j ∧ (∀ i, i < j → ¬ inBl bs at_ i) ∧ Below w.heap.size w wr) (fun i _ => bs.length - (intOf i).toNat)
  case atStart => exact ⟨0, Nat.zero_le _, rfl, fun i h => absurd h (Nat.not_lt_zero i), Below.refl _ _⟩
  case round =>
    obtain ⟨j, hj, rfl, hno, hbr⟩ := hrel
    have HNO := hide hno
    have HBR := hide hbr
    by_cases hlt : j < bs.length
    · have HLT := hide hlt
      obtain ⟨G, hx, hG, t0, t1, t2⟩ := HR.out j hlt
      replace t0 := (hbr.cell (p := ⟨G, j * 3, none⟩) hG).trans t0
      replace t1 := (hbr.cell (p := ⟨G, j * 3 + 1, none⟩) hG).trans t1
      replace t2 := (hbr.cell (p := ⟨G, j * 3 + 2, none⟩) hG).trans t2
      have HIN : Hid (inBl bs at_ j ↔ (nthB bs j).2.1 ≤ at_ ∧ at_ < (nthB bs j).2.2) := Iff.rfl
      have hj0 : (0 : Int) ≤ (j : Int) := by omega
      have hji : (j : Int) < (bs.length : Int) := by omega
      have hc1 := owner2_any (nthB bs j).1 (nthB bs j).2.1 (nthB bs j).2.2 at_ B wr (Nat.lt_of_lt_of_le hB hbr.size) ((hbr.cell (p := ⟨B, 0, none⟩) hB).trans HC.out)
      subst hx
      clear hbr hno
      generalize nthB bs j = fn at *
      obtain ⟨bid, bfr, bto⟩ := fn
      simp only at *
      generalize hm : bs.length = m at *
      have HM := hide hm
      clear hm
      go_wp2_with fail
      refine hc1.mono ?_
      rintro e w2 ⟨rfl, hb2⟩
      have HB2 := hide (HBR.out.trans (hb2.mono HBR.out.size))
      clear hc1 hb2 t0 t1 t2
      by_cases hin : bfr ≤ at_ ∧ at_ < bto
      · have hd : decide (bfr ≤ at_ ∧ at_ < bto) = true := by simpa using hin
        rw [hd]
        clear hd
        go_wp2_with fail
        go_ret
        exact ⟨_, rfl, .inl ⟨j, by rw [HM.out]; exact HLT.out, rfl, HIN.out.2 hin, HNO.out⟩, HB2.out⟩
      · have hd : decide (bfr ≤ at_ ∧ at_ < bto) = false := by simpa using hin
        rw [hd]
        have HIN2 : Hid (¬ inBl bs at_ j) := fun h => hin (HIN.out.1 h)
        clear hd hin
        go_wp2_with fail
        go_roundw
        case rel => exact ⟨j + 1, by omega, by go_num, fun i hi => by by_cases e : i = j; exact e ▸ HIN2.out; exact HNO.out i (by omega), HB2.out⟩
        case measure => simp [intOf]; omega
    · obtain rfl : j = bs.length := by omega
      clear hno hbr
      go_wp2_with fail
      go_ret
      exact ⟨_, rfl, .inr ⟨rfl, HNO.out⟩, HBR.out⟩

end Go.Proofs.Ytcckepjpehjijaa

/-
  Owner of the package layout.
-/
namespace Go.Proofs.Ytcckepjpehjijaa
open Go.RowKit
set_option linter.unusedVariables false
set_option linter.unusedSimpArgs false
set_option maxRecDepth 10000
/-- What Owner answers. -/
def OwnQ (w w' : World) (b : Int) (l : List InstT) (at_ : Int) (e : Ending) : Prop :=
  ∃ f d e1 e2 : Int, e = .returned (.tuple #[.int .i64 f, .int .i64 d, .agg #[.int .i64 e1, .int .i64 e2]]) ∧ Below w.heap.size w w' ∧ OwnerR b l at_ f d e1 e2
theorem few_cut {b : Int} {l : List InstT} (h : (layE b l).1 = 0) : FewF (cutTo l l.length) := by
  have h20 := (shape_few (layE_ok h).2.1).1
  have hsm := cutTo_small l l.length
  refine ⟨by have := hsm.1; omega, fun j => ?_⟩
  by_cases hj : j < (cutTo l l.length).length
  · have hmem : nthF (cutTo l l.length) j ∈ cutTo l l.length := by
      unfold nthF; rw [List.getD_eq_getElem?_getD, List.getElem?_eq_getElem hj]; exact List.getElem_mem hj
    have := hsm.2 _ hmem
    omega
  · have : nthF (cutTo l l.length) j = noFunc := by unfold nthF; rw [List.getD_eq_getElem?_getD, List.getElem?_eq_none (by omega)]; rfl
    rw [this]; simp [noFunc]

set_option maxHeartbeats 16000000 in
theorem layOwner_any (gen bnd at_ : Int) (a : Option Addr) (n c : Nat) (l : List InstT) (w : World) (hv : InstsV w a l) (hok : InstsOk l) (hl : l.length = n) (hn : 40 * n ≤ 140737488351232) (g0 : 0 ≤ gen) (g1 : gen < 4294967296) (b0 : 0 ≤ bnd) (b1 : bnd < 4294967296) :
    Calls Try.prog 13 #[modV gen bnd a n c, .int .i64 at_] w fun e w' => OwnQ w w' bnd l at_ e := by
  have hb0 : Below w.heap.size w (((w.alloc (.cells #[.int .u32 gen, .int .u32 bnd, .slice a n c] 25)).alloc (.cells #[.int .i64 at_] 3)).alloc (.cells #[.int .i64 0, .int .i64 0] 29)) := (((Below.refl _ w).alloc (Nat.le_refl _) _).alloc (by simp) _).alloc (by simp; omega) _
  have hC := walkOver_any gen bnd a n c l _ (hv.below hb0) hok hl hn g0 g1 b0 b1
  have HMB : Hid ((((w.alloc (.cells #[.int .u32 gen, .int .u32 bnd, .slice a n c] 25)).alloc (.cells #[.int .i64 at_] 3)).alloc (.cells #[.int .i64 0, .int .i64 0] 29)).heap[w.heap.size]? = some (.cells #[.int .u32 gen, .int .u32 bnd, .slice a n c] 25 (0, 0))) := by
    show _ = _
    rw [Below.heap_alloc _ _ _ (by simp <;> omega), Below.heap_alloc _ _ _ (by simp)]; exact heap_alloc_new w _
  have HAB : Hid ((((w.alloc (.cells #[.int .u32 gen, .int .u32 bnd, .slice a n c] 25)).alloc (.cells #[.int .i64 at_] 3)).alloc (.cells #[.int .i64 0, .int .i64 0] 29)).heap[w.heap.size + 1]? = some (.cells #[.int .i64 at_] 3 (0, 0))) := by
    have := heap_alloc_new (w.alloc (.cells #[.int .u32 gen, .int .u32 bnd, .slice a n c] 25)) (.cells #[.int .i64 at_] 3)
    rw [World.size_alloc] at this
    exact (Below.heap_alloc _ _ _ (by simp)).trans this
  have HSB : Hid ((((w.alloc (.cells #[.int .u32 gen, .int .u32 bnd, .slice a n c] 25)).alloc (.cells #[.int .i64 at_] 3)).alloc (.cells #[.int .i64 0, .int .i64 0] 29)).heap[w.heap.size + 2]? = some (.cells #[.int .i64 0, .int .i64 0] 29 (0, 0))) := by
    have := heap_alloc_new ((w.alloc (.cells #[.int .u32 gen, .int .u32 bnd, .slice a n c] 25)).alloc (.cells #[.int .i64 at_] 3)) (.cells #[.int .i64 0, .int .i64 0] 29)
    rw [World.size_alloc, World.size_alloc] at this
    exact this
  have HLT : Hid (w.heap.size + 2 < (((w.alloc (.cells #[.int .u32 gen, .int .u32 bnd, .slice a n c] 25)).alloc (.cells #[.int .i64 at_] 3)).alloc (.cells #[.int .i64 0, .int .i64 0] 29)).heap.size) := by show _ < _; simp
  have HB0 := hide hb0
  have HL := hide hl
  have HRET : Hid (∀ (a' : Act) (Z : World) (f d e1 e2 : Int), slot a'.tmps 4 = .int .i64 f → slot a'.tmps 5 = .int .i64 d → slot a'.tmps 6 = .pointer (some ⟨w.heap.size + 2, 0, none⟩) → a'.defers = [] → Z.heap[w.heap.size + 2]? = some (.cells #[.int .i64 e1, .int .i64 e2] 29 (0, 0)) → Below w.heap.size w Z → OwnerR bnd l at_ f d e1 e2 →
      bodyPost Try.prog Try.f13 (fun e w' => OwnQ w w' bnd l at_ e) .ret a' Z) := by
    intro a' Z f d e1 e2 q4 q5 q6 qd q7 q8 q9
    refine bodyPost_ret (v := .tuple #[.int .i64 f, .int .i64 d, .agg #[.int .i64 e1, .int .i64 e2]]) ?_ qd ⟨f, d, e1, e2, rfl, q8, q9⟩
    have r6 := run_loadVar_mid (P := Try.prog) Z (w.heap.size + 2) 0 29 [.int .i64 e1, .int .i64 e2] _ (range_of_block q7) Try.underlying29 rfl (by kernel_rfl)
    have hG4 : a'.tmps.getD 4 undef = .int .i64 f := q4
    have hG5 : a'.tmps.getD 5 undef = .int .i64 d := q5
    have hG6 : a'.tmps.getD 6 undef = .pointer (some ⟨w.heap.size + 2, 0, none⟩) := q6
    simp only [results, Try.results13, List.mapM_toArray, List.mapM_cons, List.mapM_nil, hG4, hG5, hG6, asAddr, Sem.run_bind, Sem.run_pure, Result.andThen_ok, bind_assoc, pure_bind, Sem.run_map, map_pure, r6]
    rfl
  have HOW : Hid (((layE bnd l).1 ≠ 0 → OwnerR bnd l at_ 0 0 (layE bnd l).1 ((layE bnd l).2 : Int)) ∧ ((layE bnd l).1 = 0 → (layE bnd l).2 = 0 ∧ ((at_ < 0 ∨ (l.length : Int) ≤ at_) → OwnerR bnd l at_ 0 0 3 0) ∧ (0 ≤ at_ → at_ < (l.length : Int) → FirstI (inFn (cutTo l l.length) at_) (cutTo l l.length).length (-1) → OwnerR bnd l at_ (-1) (-1) 0 0) ∧ (0 ≤ at_ → at_ < (l.length : Int) → ∀ (j : Nat) (d : Int), FirstI (inFn (cutTo l l.length) at_) (cutTo l l.length).length (j : Int) → FirstI (inBl (nthF (cutTo l l.length) j).2.2.2.1 at_) (nthF (cutTo l l.length) j).2.2.2.1.length d → OwnerR bnd l at_ (j : Int) d 0 0) ∧ FewF (cutTo l l.length))) :=
    ⟨fun h => .inl ⟨h, rfl, rfl, rfl, rfl⟩, fun h => ⟨by rw [(layE_ok h).2.2], fun h1 => .inr (.inl ⟨h, h1, rfl, rfl, rfl, rfl⟩), fun h1 h2 h3 => .inr (.inr ⟨h, h1, h2, rfl, rfl, h3, .inl ⟨rfl, rfl⟩⟩), fun h1 h2 j d h3 h4 => .inr (.inr ⟨h, h1, h2, rfl, rfl, h3, .inr ⟨j, rfl, h4⟩⟩), few_cut h⟩⟩
  generalize hQQ : (fun (e : Ending) (w' : World) => OwnQ w w' bnd l at_ e) = QQ at *
  clear hQQ
  unfold WalkQ at hC
  generalize layE bnd l = L at *
  obtain ⟨e1, e2⟩ := L
  unfold modV at *
  clear hb0 hv hok hl
  go_enter Try.func13, Try.ntmps13
  go_wp2_with fail
  generalize (((w.alloc (.cells #[.int .u32 gen, .int .u32 bnd, .slice a n c] 25)).alloc (.cells #[.int .i64 at_] 3)).alloc (.cells #[.int .i64 0, .int .i64 0] 29)) = W0 at *
  refine hC.mono ?_
  rintro e w1 ⟨ins, fv, ps, k, pt, kd, rfl, hb1, hone, hfs⟩
  have HFS := hide hfs
  have HB1 := hide hb1
  clear hC hfs
  unfold walkV
  obtain ⟨k1, k2, k3, k4, k5, k6⟩ := kept_walk w W0 w1 HB0.out hb1 ins fv ps k pt kd 0 0
  have HK1 := hide k1
  have HK2 := hide k2
  have HK3 := hide k3
  have HK4 := hide k4
  have HK5 := hide k5
  have HK6 := hide k6
  have hw1 : W0.heap.size ≤ w1.heap.size := hb1.size
  clear k1 k2 k3 k4 k5 k6 hb1
  simp only
  go_wp2_with (with_reducible refine stopS 63 ?_)
  refine wpList_store_mid rfl 63 (.tmp 7) (.tmp 14) rfl w1.heap.size 0 #[ins, .int .i64 (ps 0), .int .i64 (ps 1), .int .i64 (ps 2), .int .i64 (ps 3), .int .i64 (ps 4), .int .i64 (ps 5), .int .i64 (ps 6), .int .i64 (ps 7), .int .i64 (ps 8), .int .i64 (ps 9), .int .i64 (ps 10), .int .i64 (ps 11), .int .i64 (ps 12), .int .i64 (ps 13), .int .i64 (ps 14), .int .i64 (ps 15), .int .i64 (ps 16), .int .i64 (ps 17), .int .i64 (ps 18), .int .i64 (ps 19), fv, .int .i64 k, .int .u8 pt, .int .u16 kd] rfl rfl HK1.out (by kernel_rfl) (by simp [hone.1, hone.2]; simp [Value.oneCell']) ?_
  simp only [Act.put]
  generalize ((w1.alloc (.cells #[.slice none 0 0, .int .i64 0, .int .i64 0, .int .i64 0, .int .i64 0, .int .i64 0, .int .i64 0, .int .i64 0, .int .i64 0, .int .i64 0, .int .i64 0, .int .i64 0, .int .i64 0, .int .i64 0, .int .i64 0, .int .i64 0, .int .i64 0, .int .i64 0, .int .i64 0, .int .i64 0, .int .i64 0, .slice none 0 0, .int .i64 0, .int .u8 0, .int .u16 0] 63)).alloc (.cells #[.int .i64 0, .int .i64 0] 29)).setCells w1.heap.size 0 [ins, .int .i64 (ps 0), .int .i64 (ps 1), .int .i64 (ps 2), .int .i64 (ps 3), .int .i64 (ps 4), .int .i64 (ps 5), .int .i64 (ps 6), .int .i64 (ps 7), .int .i64 (ps 8), .int .i64 (ps 9), .int .i64 (ps 10), .int .i64 (ps 11), .int .i64 (ps 12), .int .i64 (ps 13), .int .i64 (ps 14), .int .i64 (ps 15), .int .i64 (ps 16), .int .i64 (ps 17), .int .i64 (ps 18), .int .i64 (ps 19), fv, .int .i64 k, .int .u8 pt, .int .u16 kd] = X at *
  have hl0 := HLT.out
  have hlx := HK5.out
  have ht3 := there_of_block HK3.out 2 rfl
  refine wpList_store_mid rfl 29 (.tmp 8) (.tmp 15) rfl (w1.heap.size + 1) 0 #[.int .i64 e1, .int .i64 (e2 : Nat)] rfl rfl ht3 (by kernel_rfl) (by simp [Value.oneCell']) ?_
  simp only [Act.put]
  have hgx := setCells_grown (w1.heap.size + 1) [.int .i64 e1, .int .i64 (e2 : Nat)] 0 X
  have y21 := (one_block ((hgx.block _ (by omega) (by simp)).trans HK2.out)).1 21
  obtain ⟨cs, _⟩ := one_block (setCells_all [.int .i64 e1, .int .i64 (e2 : Nat)] HK3.out rfl)
  have s0 := cs 0
  have s1 := cs 1
  have HY3 := hide (below_grown HK4.out hgx (fun g e => by simp at e; omega))
  have HY4 : Hid (w1.heap.size + 1 < (X.setCells (w1.heap.size + 1) 0 [.int .i64 e1, .int .i64 (e2 : Nat)]).heap.size) := Nat.lt_of_lt_of_le hlx hgx.size
  have HG : Hid (w1.grownBy (X.setCells (w1.heap.size + 1) 0 [.int .i64 e1, .int .i64 (e2 : Nat)]) none) := ⟨hgx.os.trans HK6.out.os, hgx.tape.trans HK6.out.tape, hgx.output.trans HK6.out.output, Nat.le_trans HK6.out.size hgx.size, fun i hi hn => (hgx.block i (by omega) (by simp; omega)).trans (HK6.out.block i hi hn)⟩
  clear hgx ht3 HK1 HK2 HK3 HK4 HK5 HK6 hlx cs
  generalize X.setCells (w1.heap.size + 1) 0 [.int .i64 e1, .int .i64 (e2 : Nat)] = Y at *
  have kr := (HY3.out.block (w.heap.size + 2) hl0).trans HSB.out
  have ka := (HY3.out.block (w.heap.size + 1) (by omega)).trans HAB.out
  have km := (HY3.out.block w.heap.size (by omega)).trans HMB.out
  have HKR := hide kr
  have HKA := hide ka
  obtain ⟨cr, fr⟩ := one_block kr
  have r0 := cr 0
  have r1 := cr 1
  have a0 := (one_block ka).1 0
  have m2 := (one_block km).1 2
  have hly := HY4.out
  have ne1 : w1.heap.size + 1 ≠ w.heap.size + 2 := by omega
  have ne2 : w1.heap.size ≠ w.heap.size + 2 := by omega
  have HBY := hide (HB0.out.trans (HY3.out.mono HB0.out.size))
  have hwy : w.heap.size + 2 < Y.heap.size := by omega
  have HONE := hide hone
  clear kr ka km cr hone
  by_cases hE0 : e1 = 0
  · subst hE0
    obtain ⟨hz2, hw2, hw3, hw4, hfew⟩ := HOW.out.2 rfl
    have HW2 := hide hw2
    have HW3 := hide hw3
    have HW4 := hide hw4
    have HFEW := hide hfew
    have hFF : FuncsAt w1 W0.heap.size fv (cutTo l l.length) := by
      rcases HFS.out with ⟨h1, _⟩ | ⟨_, _, h3⟩
      · exact absurd rfl h1
      · exact h3
    have HFY := hide (hFF.kept HG.out (fun g e => by cases e))
    clear hw2 hw3 hw4 hfew hFF HOW HFS hz2
    rw [HL.out] at HW2 HW3 HW4 HFEW HFY
    by_cases hat0 : at_ < 0
    · have HOR := hide (HW2.out (.inl hat0))
      have hd0 : decide (at_ < 0) = true := by simpa using hat0
      have HP2 := hide (two_put2 HKR.out (.int .i64 3) (.int .i64 0))
      have HBF := hide (HBY.out.trans ((two_below Y (w.heap.size + 2) (.int .i64 3) (.int .i64 0)).mono (by omega)))
      clear HW3 HW4
      go_wp2_with fail
      refine HRET.out _ _ 0 0 3 0 ?_ ?_ ?_ ?_ HP2.out HBF.out HOR.out
      · rfl
      · rfl
      · rfl
      · rfl
    · by_cases hatn : (n : Int) ≤ at_
      · have HOR := hide (HW2.out (.inr hatn))
        have hd0 : decide (at_ < 0) = false := by simpa using hat0
        have hd1 : decide ((n : Int) ≤ at_) = true := by simpa using hatn
        have HP2 := hide (two_put2 HKR.out (.int .i64 3) (.int .i64 0))
        have HBF := hide (HBY.out.trans ((two_below Y (w.heap.size + 2) (.int .i64 3) (.int .i64 0)).mono (by omega)))
        clear HW3 HW4
        go_wp2_with fail
        refine HRET.out _ _ 0 0 3 0 ?_ ?_ ?_ ?_ HP2.out HBF.out HOR.out
        · rfl
        · rfl
        · rfl
        · rfl
      · have hg0 : 0 ≤ at_ := by omega
        have hg1 : at_ < (n : Int) := by omega
        have HW5 := hide (HW3.out hg0 hg1)
        have HW6 := hide (HW4.out hg0 hg1)
        have hix := idxFuncs_any fv (cutTo l n) at_ (w.heap.size + 1) Y HFY.out.readV HFEW.out.1 (by omega) a0
        have hY21 := y21
        clear HW2 HW3 HW4
        go_wp2_with fail
        refine hix.mono ?_
        rintro e w2 ⟨r, rfl, hfi, hb2⟩
        have HFI := hide hfi
        have HB2 := hide hb2
        have kr := (hb2.block (w.heap.size + 2) hwy).trans HKR.out
        have a0' := (hb2.cell (p := ⟨w.heap.size + 1, 0, none⟩) (show w.heap.size + 1 < Y.heap.size by omega)).trans a0
        have y21' := (hb2.cell (p := ⟨w1.heap.size, 21, none⟩) (show w1.heap.size < Y.heap.size by omega)).trans hY21
        obtain ⟨cr, fr'⟩ := one_block kr
        have r0' := cr 0
        have r1' := cr 1
        have HKR2 := hide kr
        have hs2 := hb2.size
        clear hix hfi hb2 kr cr r0 r1 fr a0 y21 hY21 s0 s1 m2
        by_cases hr : r < 0
        · have hr1 : r = -1 := by
            rcases HFI.out with ⟨j, _, e, _⟩ | ⟨e, _⟩
            · exact absurd e (by omega)
            · exact e
          have HOR := hide (HW5.out (by rw [← hr1]; exact HFI.out))
          have hd2 : decide (r < 0) = true := by simpa using hr
          have HP2 := hide (two_put2 HKR2.out (.int .i64 0) (.int .i64 0))
          have HBF := hide ((HBY.out.trans (HB2.out.mono HBY.out.size)).trans ((two_below w2 (w.heap.size + 2) (.int .i64 0) (.int .i64 0)).mono (by omega)))
          clear hr1 HW5 HW6 y21' a0'
          go_wp2_with fail
          refine HRET.out _ _ (-1) (-1) 0 0 ?_ ?_ ?_ ?_ HP2.out HBF.out HOR.out
          · rfl
          · rfl
          · rfl
          · rfl
        · obtain ⟨j, hj, rfl, _⟩ : ∃ j : Nat, j < (cutTo l n).length ∧ r = (j : Int) ∧ True := by
            rcases HFI.out with ⟨j, h1, e, _⟩ | ⟨e, _⟩
            · exact ⟨j, h1, e, trivial⟩
            · exact absurd e (by omega)
          have HOR := hide (fun d h => HW6.out j d HFI.out h)
          have hd2 : decide ((j : Int) < 0) = false := by simp
          obtain ⟨x3, c3, e3, hrd⟩ := (HFY.out.below HB2.out).readV
          obtain ⟨F, xp, cp, xq, cq, hx, hF, q0, q1, q2, q3, q4, _, hbk⟩ := hrd j hj
          have hib := idxBlocks_any xq cq (nthF (cutTo l n) j).2.2.2.1 at_ (w.heap.size + 1) w2 hbk (HFEW.out.2 j).2 (by omega) a0'
          have hj0 : (0 : Int) ≤ (j : Int) := by omega
          have hji : (j : Int) < ((cutTo l n).length : Int) := by omega
          subst hx
          subst e3
          clear hrd hbk HW5 HW6 HFI hr q0 q1 q2 q4
          generalize nthF (cutTo l n) j = fn at *
          generalize hml : (cutTo l n).length = ml at *
          clear hml
          go_wp2_with fail
          refine hib.mono ?_
          rintro e w3 ⟨d, rfl, hfd, hb3⟩
          have HORd := hide (HOR.out d hfd)
          have kr := (hb3.block (w.heap.size + 2) (by omega)).trans HKR2.out
          obtain ⟨cr, fr3⟩ := one_block kr
          have r03 := cr 0
          have r13 := cr 1
          have HP2 := hide (two_put2 kr (.int .i64 0) (.int .i64 0))
          have HBF := hide (((HBY.out.trans (HB2.out.mono HBY.out.size)).trans (hb3.mono (Nat.le_trans HBY.out.size HB2.out.size))).trans ((two_below w3 (w.heap.size + 2) (.int .i64 0) (.int .i64 0)).mono (by omega)))
          clear hib hfd hb3 kr cr r0' r1' fr' q3 y21' a0'
          go_wp2_with fail
          refine HRET.out _ _ (j : Int) d 0 0 ?_ ?_ ?_ ?_ HP2.out HBF.out HORd.out
          · rfl
          · rfl
          · rfl
          · rfl
  · have hE1 : (e1 != 0) = true := by simpa using hE0
    have HOR := hide (HOW.out.1 hE0)
    have hg2 := setCells_grown (w.heap.size + 2) [.int .i64 e1, .int .i64 (e2 : Nat)] 0 Y
    have HP2 := hide (setCells_all (w := Y) [.int .i64 e1, .int .i64 (e2 : Nat)] HKR.out rfl)
    have HBF := hide (below_grown HBY.out hg2 (fun g e => by simp at e; omega))
    clear HOW hg2
    go_wp2_with fail
    go_region
    show Exit.then _ _ _ _ (Y.setCells (w.heap.size + 2) 0 [.int .i64 e1, .int .i64 (e2 : Nat)]).drew
    have HP3 : Hid ((Y.setCells (w.heap.size + 2) 0 [.int .i64 e1, .int .i64 (e2 : Nat)]).drew.heap[w.heap.size + 2]? = some (.cells #[.int .i64 e1, .int .i64 (e2 : Nat)] 29 (0, 0))) := HP2.out
    have HB3 : Hid (Below w.heap.size w (Y.setCells (w.heap.size + 2) 0 [.int .i64 e1, .int .i64 (e2 : Nat)]).drew) := HBF.out.drew
    clear y21 s0 s1 r0 r1 fr HP2 HBF HY3 HY4 HG
    generalize (Y.setCells (w.heap.size + 2) 0 [.int .i64 e1, .int .i64 (e2 : Nat)]).drew = Z at *
    rw [then_normalW]
    go_wp2_with fail
    refine HRET.out _ Z 0 0 e1 (e2 : Nat) ?_ ?_ ?_ ?_ HP3.out HB3.out HOR.out
    · rfl
    · rfl
    · rfl
    · rfl
end Go.Proofs.Ytcckepjpehjijaa
