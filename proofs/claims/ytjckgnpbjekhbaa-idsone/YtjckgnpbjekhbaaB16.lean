/-
  Texts laid together in one: MapU, IdsMakers, MathIc, MathRn, MathPr.
-/
import Derived.WalkSpells
import Derived.WalkMore
import Derived.Maps.OwnSet
import Derived.Test.YtjckgnpbjekhbaaProg
import Derived.Test.YtjckgnpbjekhbaaB01
import Derived.Test.YtjckgnpbjekhbaaB10
import Derived.BigRegion
import Derived.Test.YtjckgnpbjekhbaaB11
import Derived.Test.YtjckgnpbjekhbaaB15
/-
  A map by words, with numbers in it, as a function of its keys.
-/
namespace Go.Proofs.Ytjckgnpbjekhbaa
open Go.RowKit Go.Maps
set_option linter.unusedVariables false
set_option linter.unusedSimpArgs false
set_option maxRecDepth 10000

theorem keyU : Keyed Try.prog 22 := int_keyed Try.underlying22
theorem keyU_of {x : Int} (h0 : 0 ≤ x) (h1 : x < 4294967296) : keyOf Try.prog 22 (.int .u32 x) = some (.int .u32 x) := keyOf_int_mk Try.underlying22 (by simp [Lit.wf, show IntKind.u32.min = 0 from rfl, show IntKind.u32.max = 4294967295 from rfl]; omega)

/-- Block b is a map of at most n entries: at the key x stands f x. -/
def MapU (w : World) (E : TypeId) (q : IntKind) (b n : Nat) (f : Int → Option Int) : Prop :=
  ∃ D : DataW Unit, w.ownsMap Try.prog 22 (plainElem Try.prog E) b n D ∧ (∀ x, Maps.has D (.int .u32 x) = (f x).isSome) ∧ ∀ x, D.atKey (.int .u32 x) (.lit (.int q 0)) = .lit (.int q ((f x).getD 0))
theorem MapU.made (w : World) (E : TypeId) (q : IntKind) : MapU (w.alloc (.map #[] 0)) E q w.heap.size 0 (fun _ => none) :=
  ⟨.map [], World.ownsMap_made _ _ _ _, fun x => rfl, fun x => rfl⟩
theorem MapU.lt {w : World} {E : TypeId} {q : IntKind} {b n : Nat} {f : Int → Option Int} (h : MapU w E q b n f) : b < w.heap.size := by obtain ⟨D, h1, _⟩ := h; exact h1.lt
theorem MapU.below {w w' : World} {E : TypeId} {q : IntKind} {b n : Nat} {f : Int → Option Int} (h : MapU w E q b n f) (hb : Below w.heap.size w w') : MapU w' E q b n f := by
  have hl := h.lt
  obtain ⟨D, ⟨es, ck, h1, h2⟩, h3⟩ := h
  exact ⟨D, ⟨es, ck, (hb.block b hl).trans h1, h2⟩, h3⟩
theorem MapU.block {w w' : World} {E : TypeId} {q : IntKind} {b n : Nat} {f : Int → Option Int} (h : MapU w E q b n f) (hb : w'.heap[b]? = w.heap[b]?) : MapU w' E q b n f := by
  obtain ⟨D, ⟨es, ck, h1, h2⟩, h3⟩ := h
  exact ⟨D, ⟨es, ck, hb.trans h1, h2⟩, h3⟩
theorem MapU.mono {w : World} {E : TypeId} {q : IntKind} {b n n' : Nat} {f : Int → Option Int} (h : MapU w E q b n f) (hn : n ≤ n') : MapU w E q b n' f := by
  obtain ⟨D, h1, h2⟩ := h
  exact ⟨D, h1.mono hn, h2⟩
theorem MapU.congr {w : World} {E : TypeId} {q : IntKind} {b n : Nat} {f g : Int → Option Int} (h : MapU w E q b n f) (e : ∀ x, f x = g x) : MapU w E q b n g := by
  have : f = g := funext e
  rw [← this]; exact h
theorem MapU.put {w' : World} {E : TypeId} {q : IntKind} {b n' : Nat} {f : Int → Option Int} {D : DataW Unit} {x v : Int} (hD : IsMap D) (h1 : ∀ x, Maps.has D (.int .u32 x) = (f x).isSome) (h2 : ∀ x, D.atKey (.int .u32 x) (.lit (.int q 0)) = .lit (.int q ((f x).getD 0)))
    (h : w'.ownsMap Try.prog 22 (plainElem Try.prog E) b n' (D.put (.int .u32 x) (.lit (.int q v)))) : MapU w' E q b n' (fun y => if y = x then some v else f y) := by
  refine ⟨_, h, fun y => ?_, fun y => ?_⟩
  · show _ = (if y = x then some v else f y).isSome
    by_cases e : y = x
    · subst e; rw [if_pos rfl]; exact has_put_same (k := .int .u32 y) hD (by simp [WideAt.IsKeyLit]) _
    · rw [if_neg e, ← h1 y]; exact has_put_other (by simpa using e) _
  · show _ = DataW.lit (.int q ((if y = x then some v else f y).getD 0))
    by_cases e : y = x
    · subst e; rw [if_pos rfl]; exact atKey_put_same (k := .int .u32 y) hD (by simp [WideAt.IsKeyLit]) _ _
    · rw [if_neg e, ← h2 y]; exact atKey_put_other (by simpa using e) _ _

section
variable {w : World} {ops : Array Oper} {rest : List Oper} {o : Oper} {a : Act} {Q : Exit → Act → World → Prop}
/-- 'v, ok := m[x]'. -/
theorem wpList_lookU_ok (hg : o.guard = none) (m x : Operand) (t : TypeId) (hop : o.op = Op.lookup t m x true) (E : TypeId) (q : IntKind) (ht : Try.prog.underlying t = some (.map 22 E)) (he : Try.prog.underlying E = some (.int q)) (hz : (zeroValue E).run Try.prog w = .ok (.int q 0) w)
    (b n : Nat) (f : Int → Option Int) (hm : a.eval m = .map (some b)) (h : MapU w E q b n f) (key : Int) (hx : a.eval x = .int .u32 key) (k0 : 0 ≤ key) (k1 : key < 4294967296)
    (hK : wpList Try.prog ops Q rest (a.put o.dst (.tuple #[.int q ((f key).getD 0), .bool (f key).isSome])) w) : wpList Try.prog ops Q (o :: rest) a w := by
  obtain ⟨D, h1, h2, h3⟩ := h
  refine wpList_lookup_own_ok_int w hg m x t hop 22 E q keyU ht he hz b n D hm h1 _ _ hx (keyU_of k0 k1) ?_
  intro c hat _
  rw [h3] at hat
  simp only [DataW.lit.injEq, Lit.int.injEq, true_and] at hat
  rw [← hat, h2]
  exact hK
/-- 'v := m[x]'. -/
theorem wpList_lookU (hg : o.guard = none) (m x : Operand) (t : TypeId) (hop : o.op = Op.lookup t m x false) (E : TypeId) (q : IntKind) (ht : Try.prog.underlying t = some (.map 22 E)) (he : Try.prog.underlying E = some (.int q)) (hz : (zeroValue E).run Try.prog w = .ok (.int q 0) w)
    (b n : Nat) (f : Int → Option Int) (hm : a.eval m = .map (some b)) (h : MapU w E q b n f) (key : Int) (hx : a.eval x = .int .u32 key) (k0 : 0 ≤ key) (k1 : key < 4294967296)
    (hK : wpList Try.prog ops Q rest (a.put o.dst (.int q ((f key).getD 0))) w) : wpList Try.prog ops Q (o :: rest) a w := by
  obtain ⟨D, h1, h2, h3⟩ := h
  refine wpList_lookup_own_int w hg m x t hop 22 E q keyU ht he hz b n D hm h1 _ _ hx (keyU_of k0 k1) ?_
  intro c hat _
  rw [h3] at hat
  simp only [DataW.lit.injEq, Lit.int.injEq, true_and] at hat
  rw [← hat]
  exact hK
/-- 'm[x] = v'. -/
theorem wpList_putU (hg : o.guard = none) (m x v : Operand) (t : TypeId) (hop : o.op = Op.mapUpdate t m x v) (E : TypeId) (q : IntKind) (ht : Try.prog.underlying t = some (.map 22 E)) (he : Try.prog.underlying E = some (.int q))
    (b n : Nat) (f : Int → Option Int) (hm : a.eval m = .map (some b)) (h : MapU w E q b n f) (hn : n < maxLen) (key val : Int) (hx : a.eval x = .int .u32 key) (k0 : 0 ≤ key) (k1 : key < 4294967296) (hv : a.eval v = .int q val) (hw : (Lit.int q val).wf = true)
    (hK : ∀ w', MapU w' E q b (n + 1) (fun y => if y = key then some val else f y) → w.grownBy w' (some b) → wpList Try.prog ops Q rest (a.put o.dst undef) w') : wpList Try.prog ops Q (o :: rest) a w := by
  obtain ⟨D, h1, h2, h3⟩ := h
  refine wpList_mapUpdate_own w hg m x v t hop 22 E keyU ht _ b n D hm h1 hn _ _ _ hx hv (keyU_of k0 k1) _ [] (plainElem_int he hw) ?_
  intro w' h4 h5
  exact hK w' (MapU.put h1.isMap h2 h3 h4) h5
end

end Go.Proofs.Ytjckgnpbjekhbaa

/-
  makersOf of the package ids: a map from each id that is made to the least place at which it is made; the document's Maker.
-/
namespace Go.Proofs.Ytjckgnpbjekhbaa
open Go.RowKit Go.Maps
set_option linter.unusedVariables false
set_option linter.unusedSimpArgs false
set_option maxRecDepth 10000

/-- The least place below k at which an id is made. -/
def makT (l : List InstT) : Nat → Int → Option Int
  | 0, _ => none
  | k + 1, id => if (makT l k id).isSome = true then makT l k id else if (nthI l k).2.2.1 = id ∧ id ≠ 0 then some (k : Int) else none
def makV (l : List InstT) (k : Nat) (id : Int) : Int := (makT l k id).getD (-1)
theorem makT_some (l : List InstT) (id : Int) : ∀ k p, makT l k id = some p → 0 ≤ p ∧ p < (k : Int)
  | 0, p, h => by cases h
  | k + 1, p, h => by
    rw [makT] at h
    split at h
    · have := makT_some l id k p h; omega
    · split at h
      · cases h; omega
      · cases h
theorem makT_stays (l : List InstT) (id : Int) (k : Nat) (h : (makT l k id).isSome = true) : ∀ d, makT l (k + d) id = makT l k id
  | 0 => rfl
  | d + 1 => by
    have ih := makT_stays l id k h d
    rw [show k + (d + 1) = (k + d) + 1 by omega, makT, ih, if_pos h]
theorem makT_zero (l : List InstT) : ∀ k, makT l k 0 = none
  | 0 => rfl
  | k + 1 => by rw [makT, makT_zero l k]; simp

theorem zeroI64 (w : World) : (zeroValue 3).run Try.prog w = .ok (.int .i64 0) w := by kernel_rfl

set_option maxHeartbeats 8000000 in
theorem makersOf_any (a : Option Addr) (n c : Nat) (l : List InstT) (w : World) (hv : InstsV w a l) (hok : InstsOk l) (hl : l.length = n) (hn : 40 * n ≤ 140737488351232) :
    Calls Try.prog 30 #[.slice a n c] w fun e w' => ∃ b, e = .returned (.map (some b)) ∧ w.heap.size ≤ b ∧ MapU w' 3 .i64 b n (makT l n) ∧ Below w.heap.size w w' := by
  have HV := hide hv
  have HOK := hide hok
  have HL := hide hl
  have HN : Hid (40 * n ≤ 140737488351232) := hn
  have hmm := @run_makeMap Try.prog
  have HM0 := hide (MapU.made w 3 .i64)
  have HB0 := hide ((Below.refl _ w).alloc (Nat.le_refl _) (.map #[] 0))
  have HTT := hide Try.underlying66
  have HTE := hide Try.underlying3
  clear hv hok hl hn
  go_enter Try.func30, Try.ntmps30
  go_wp2_with fail
  generalize w.alloc (.map #[] 0) = W0 at *
  go_loopw [11] (fun i wr => ∃ k : Nat, k ≤ n ∧ i = .int .i64 k ∧ MapU wr 3 .i64 w.heap.size k (makT l k) ∧ Below w.heap.size w wr) (fun i _ => n - (intOf i).toNat)
  case atStart => exact ⟨0, Nat.zero_le _, rfl, HM0.out, HB0.out⟩
  case round =>
    obtain ⟨k, hk, rfl, hM, hB⟩ := hrel
    clear HM0 HB0 hmm
    have hA := HV.out.below hB
    have hkb : (k : Int) < 140737488351232 := by have := HN.out; omega
    by_cases hlt : k < n
    · have hkl : k < l.length := by rw [HL.out]; exact hlt
      obtain ⟨g1, o1, aj, cj, nj, rfl, hg1, p1, p2, p3, p4, p5, p6, p7⟩ := hA k hkl
      have hki : (k : Int) < (n : Int) := by omega
      have hk0 : (0 : Int) ≤ (k : Int) := by omega
      have hz := HOK.out k hkl
      have hr0 := hz.2.2.2.2.1
      have hr1 := hz.2.2.2.2.2.1
      have HSU : Hid (∀ id, makT l (k + 1) id = if (makT l k id).isSome = true then makT l k id else if (nthI l k).2.2.1 = id ∧ id ≠ 0 then some (k : Int) else none) := fun id => rfl
      have HBD : Hid ((k : Int) < 9223372036854775807 ∧ k < maxLen) := by have := HN.out; exact ⟨by omega, by unfold maxLen; omega⟩
      generalize nthI l k = z at *
      obtain ⟨zo, zt, zr, zl⟩ := z
      simp only at *
      have hba : Below wr.heap.size wr (wr.alloc (.cells #[.int .u16 zo, .int .u32 zt, .int .u32 zr, .slice aj nj cj] 38)) := (Below.refl _ wr).alloc (Nat.le_refl _) _
      have HM2 := hide (hM.below hba)
      have HB2 := hide (hB.trans (hba.mono hB.size))
      have HR := hide (And.intro hr0 hr1)
      by_cases hz0 : zr = 0
      · subst hz0
        have HE : Hid (∀ id, makT l k id = makT l (k + 1) id) := fun id => by
          rw [HSU.out id]
          by_cases h : (makT l k id).isSome = true
          · rw [if_pos h]
          · rw [if_neg h, if_neg (by rintro ⟨rfl, h2⟩; exact h2 rfl)]; simpa using h
        clear hA hM hB p5 p6 p7 hz HSU
        go_wp2_with fail
        go_roundw
        case rel => exact ⟨k + 1, by omega, by go_num, (HM2.out.congr HE.out).mono (Nat.le_succ _), HB2.out⟩
        case measure => simp [intOf]; omega
      · have hz0' : (zr == 0) = false := by simpa using hz0
        have hlz : wr.heap.size < (wr.alloc (.cells #[.int .u16 zo, .int .u32 zt, .int .u32 zr, .slice aj nj cj] 38)).heap.size := by simp
        have r2 : (wr.alloc (.cells #[.int .u16 zo, .int .u32 zt, .int .u32 zr, .slice aj nj cj] 38)).cell? ⟨wr.heap.size, 2, none⟩ = some (.int .u32 zr) := (one_block (heap_alloc_new wr (.cells #[.int .u16 zo, .int .u32 zt, .int .u32 zr, .slice aj nj cj] 38))).1 2
        have HR2 := hide r2
        by_cases hs : (makT l k zr).isSome = true
        · have HE : Hid (∀ id, makT l k id = makT l (k + 1) id) := fun id => by
            rw [HSU.out id]
            by_cases h : (makT l k id).isSome = true
            · rw [if_pos h]
            · rw [if_neg h, if_neg (by rintro ⟨rfl, h2⟩; exact h hs)]; simpa using h
          clear hA hM hB p5 p6 p7 hz HSU r2
          go_wp2_with (at_lookup; refine wpList_lookU_ok rfl _ _ 66 rfl 3 .i64 HTT.out HTE.out (zeroI64 _) w.heap.size k (makT l k) rfl HM2.out zr rfl HR.out.1 HR.out.2 ?_; rw [hs])
          go_roundw
          case rel => exact ⟨k + 1, by omega, by go_num, (HM2.out.congr HE.out).mono (Nat.le_succ _), HB2.out⟩
          case measure => simp [intOf]; omega
        · have hs' : (makT l k zr).isSome = false := by simpa using hs
          have HE : Hid (∀ id, (if id = zr then some (k : Int) else makT l k id) = makT l (k + 1) id) := fun id => by
            rw [HSU.out id]
            by_cases e : id = zr
            · subst e; rw [if_pos rfl, if_neg hs, if_pos ⟨rfl, hz0⟩]
            · rw [if_neg e]
              by_cases h : (makT l k id).isSome = true
              · rw [if_pos h]
              · rw [if_neg h, if_neg (by rintro ⟨rfl, _⟩; exact e rfl)]; simpa using h
          clear hA hM hB p5 p6 p7 hz HSU hs
          have hwf : (Lit.int .i64 (k : Int)).wf = true := WalkArith.wf_i64 (by have := HBD.out.1; omega)
          have HWF := hide hwf
          clear hwf
          go_wp2_with (first | (at_lookup; refine wpList_lookU_ok rfl _ _ 66 rfl 3 .i64 HTT.out HTE.out (zeroI64 _) w.heap.size k (makT l k) rfl HM2.out zr rfl HR.out.1 HR.out.2 ?_; rw [hs']) | (at_mapUpdate; refine wpList_putU rfl _ _ _ 66 rfl 3 .i64 HTT.out HTE.out w.heap.size k (makT l k) rfl HM2.out HBD.out.2 zr (k : Int) rfl HR.out.1 HR.out.2 rfl HWF.out ?_; intro w5 hM5 hg5) | go_in)
          have HB5 := hide (HB2.out.grown hg5 HB2.out.size (fun j hj => by cases hj; exact Nat.le_refl _))
          have HM5 := hide (hM5.congr HE.out)
          clear hM5 hg5
          go_wp2_with fail
          go_roundw
          case rel => exact ⟨k + 1, by omega, by go_num, HM5.out, HB5.out⟩
          case measure => simp [intOf]; omega
    · obtain rfl : k = n := by omega
      have HM := hide hM
      have HB := hide hB
      clear hA hM hB
      go_wp2_with fail
      go_ret
      exact ⟨w.heap.size, rfl, Nat.le_refl _, HM.out, HB.out⟩

end Go.Proofs.Ytjckgnpbjekhbaa

/-
  Whether ids are made, and where: in plain mathematics.
-/
namespace Go.Proofs.Ytjckgnpbjekhbaa
open Go.RowKit
set_option linter.unusedVariables false
set_option linter.unusedSimpArgs false

/-- Are all ids made among the first k? -/
def allMade (l : List InstT) (k : Nat) (zs : List Int) : Bool := zs.all fun id => (makT l k id).isSome
/-- What is wrong with the ids at a place. -/
def faultAt (l : List InstT) (k : Nat) : Int :=
  if (makT l k (nthI l k).2.2.1).isSome = true then 90
  else if allMade l l.length (idsI (nthI l k)) = false then 91
  else if partI (nthI l k) = 7 ∧ allMade l k (idsI (nthI l k)) = false then 92 else 0
def idsF (l : List InstT) : Nat → Nat → Int × Nat
  | 0, _ => (0, 0)
  | m + 1, k => if faultAt l k ≠ 0 then (faultAt l k, k) else idsF l m (k + 1)
/-- What is wrong with a module's ids. -/
def idsE (b : Int) (l : List InstT) : Int × Nat := if (layE b l).1 ≠ 0 then layE b l else idsF l l.length 0
theorem idsF_ok {l : List InstT} : ∀ (j m k : Nat), (∀ i, i < j → faultAt l (k + i) = 0) → idsF l (j + m) k = idsF l m (k + j)
  | 0, m, k, _ => by rw [Nat.zero_add, Nat.add_zero]
  | j + 1, m, k, h => by
    have h0 := h 0 (by omega)
    rw [Nat.add_zero] at h0
    rw [show j + 1 + m = (j + m) + 1 by omega, idsF, if_neg (by rw [h0]; simp), idsF_ok j m (k + 1) (fun i hi => by have := h (i + 1) (by omega); rw [show k + 1 + i = k + (i + 1) by omega]; exact this)]
    congr 1; omega
theorem idsF_at {l : List InstT} {k : Nat} (hk : k < l.length) (hok : ∀ i, i < k → faultAt l i = 0) (hf : faultAt l k ≠ 0) : idsF l l.length 0 = (faultAt l k, k) := by
  have e := idsF_ok k (l.length - k) 0 (fun i hi => by rw [Nat.zero_add]; exact hok i hi)
  rw [show k + (l.length - k) = l.length by omega, Nat.zero_add] at e
  rw [e, show l.length - k = (l.length - k - 1) + 1 by omega, idsF, if_pos hf]
theorem idsF_done {l : List InstT} (hok : ∀ i, i < l.length → faultAt l i = 0) : idsF l l.length 0 = (0, 0) := by
  have e := idsF_ok l.length 0 0 (fun i hi => by rw [Nat.zero_add]; exact hok i hi)
  rw [Nat.add_zero] at e
  rw [e]; rfl

theorem makT_cut {l : List InstT} {id p : Int} : ∀ {n k : Nat}, k ≤ n → makT l n id = some p → p < k → makT l k id = some p
  | 0, k, hk, h, _ => by cases h
  | n + 1, k, hk, h, hp => by
    by_cases e : k = n + 1
    · rw [e]; exact h
    · rw [makT] at h
      split at h
      · exact makT_cut (by omega) h hp
      · split at h
        · cases h; omega
        · cases h
/-- The first maker stands ahead of a place just if there is one ahead. -/
theorem makT_ahead {l : List InstT} {id p : Int} {n k : Nat} (hk : k ≤ n) (h : makT l n id = some p) : (makT l k id).isSome = decide (p < (k : Int)) := by
  by_cases hp : p < (k : Int)
  · rw [makT_cut hk h hp]; simp [hp]
  · cases hm : makT l k id with
    | none => simp [hp]
    | some q =>
      have h1 := makT_stays l id k (by rw [hm]; rfl) (n - k)
      rw [show k + (n - k) = n by omega, hm, h] at h1
      cases h1
      have := (makT_some l id k p hm).2
      exact absurd this hp
theorem makT_own {l : List InstT} {k : Nat} (hk : k < l.length) (h0 : (nthI l k).2.2.1 ≠ 0) : ∃ p, makT l l.length (nthI l k).2.2.1 = some p := by
  have h1 : (makT l (k + 1) (nthI l k).2.2.1).isSome = true := by
    rw [makT]
    split
    · assumption
    · rw [if_pos ⟨rfl, h0⟩]; rfl
  have h2 := makT_stays l _ (k + 1) h1 (l.length - (k + 1))
  rw [show k + 1 + (l.length - (k + 1)) = l.length by omega] at h2
  obtain ⟨p, hp⟩ := Option.isSome_iff_exists.1 h1
  exact ⟨p, by rw [h2, hp]⟩

theorem okTo_sorted {l : List InstT} {n i j : Nat} (h : okTo l n) (hij : i ≤ j) (hj : j < n) : partI (nthI l i) ≤ partI (nthI l j) := by
  by_cases e : i = j
  · rw [e]; exact Int.le_refl _
  · have hm := h j hj
    rcases Int.lt_or_le (partI (nthI l j)) (partI (nthI l i)) with h1 | h1
    · rw [mayL_over (by omega) h1] at hm; cases hm
    · exact h1
theorem cntP_le_of {l : List InstT} {p : Nat} : ∀ {n k : Nat}, k ≤ n → (∀ j, k ≤ j → j < n → (p : Int) ≤ partI (nthI l j)) → cntP l p n ≤ k
  | 0, k, hk, _ => by rw [cntP]; omega
  | n + 1, k, hk, h => by
    by_cases e : k = n + 1
    · have := cntP_le l p (n + 1); omega
    · have := cntP_le_of (n := n) (k := k) (by omega) (fun j h1 h2 => h j h1 (by omega))
      rw [cntP_more (h n (by omega) (by omega))]; exact this
theorem cntP_ge_of {l : List InstT} {p : Nat} : ∀ {n k : Nat}, k ≤ n → (∀ j, j < k → partI (nthI l j) < p) → k ≤ cntP l p n
  | 0, k, hk, _ => by omega
  | n + 1, k, hk, h => by
    by_cases e : k = n + 1
    · subst e; rw [cntP_all h]; exact Nat.le_refl _
    · have := cntP_ge_of (n := n) (k := k) (by omega) h
      rw [cntP]; omega
theorem span_part {l : List InstT} {n k p : Nat} (h : okTo l n) (hk : k < n) : (cntP l p n ≤ k ↔ (p : Int) ≤ partI (nthI l k)) := by
  constructor
  · intro h1
    rcases Int.lt_or_le (partI (nthI l k)) p with h2 | h2
    · have := cntP_ge_of (l := l) (p := p) (n := n) (k := k + 1) (by omega) (fun j hj => by have := okTo_sorted h (show j ≤ k by omega) hk; omega)
      omega
    · exact h2
  · intro h1
    exact cntP_le_of (by omega) (fun j hj hj2 => by have := okTo_sorted h hj hj2; omega)
theorem layE_ok {b : Int} {l : List InstT} (h : (layE b l).1 = 0) : okTo l l.length ∧ (shapeE b l).1 = 0 ∧ layE b l = (0, 0) := by
  unfold layE at h ⊢
  by_cases h1 : (shapeE b l).1 = 0
  · rw [if_neg (by simpa using h1)] at h ⊢
    have key : ∀ m k, k + m = l.length → okTo l k → (layF l m k).1 = 0 → okTo l l.length ∧ layF l m k = (0, 0) := by
      intro m
      induction m with
      | zero =>
        intro k hk hok h0
        rw [layF] at h0 ⊢
        cases hO : openE l with
        | true => rw [hO] at h0; simp at h0
        | false => rw [show l.length = k by omega]; exact ⟨hok, rfl⟩
      | succ m ih =>
        intro k hk hok h0
        rw [layF] at h0 ⊢
        cases hm : mayL l k with
        | false => rw [hm] at h0; simp at h0
        | true =>
          rw [hm, if_pos rfl] at h0
          rw [if_pos rfl]
          exact ih (k + 1) (by omega) (hok.snoc hm) h0
    obtain ⟨q1, q2⟩ := key l.length 0 (by omega) (okTo_zero l) h
    exact ⟨q1, h1, q2⟩
  · rw [if_pos h1] at h; exact absurd h h1
theorem idsA_range {x : InstT} (h : InstOk x) : ∀ id ∈ idsI x, 0 ≤ id ∧ id < 4294967296 := by
  obtain ⟨_, _, h1, h2, _, _, h3, _⟩ := h
  intro id hid
  unfold idsI idsTo at hid
  rw [List.take_length] at hid
  rcases List.mem_append.1 hid with h | h
  · split at h
    · cases h
    · rw [List.mem_singleton] at h; subst h; exact ⟨h1, h2⟩
  · obtain ⟨y, hy, hi⟩ := List.mem_flatMap.1 h
    obtain ⟨j, hj, rfl⟩ := List.getElem_of_mem hy
    have hk := h3 j hj
    rw [show nthA x.2.2.2 j = x.2.2.2[j] by simp [nthA, List.getD, hj]] at hk
    unfold idsA at hi
    split at hi
    · rw [List.mem_singleton] at hi; subst hi; exact ⟨hk.2.2.1, hk.2.2.2.1⟩
    · cases hi
/-- What the loop over the ids of a place has found, with the first j of them. -/
def aheadJ (l : List InstT) (k j : Nat) : Bool := decide (partI (nthI l k) = 7) && !allMade l k ((idsI (nthI l k)).take j)
theorem allMade_snoc (l : List InstT) (k : Nat) (zs : List Int) (j : Nat) (hj : j < zs.length) : allMade l k (zs.take (j + 1)) = (allMade l k (zs.take j) && (makT l k (nth zs j)).isSome) := by
  unfold allMade
  rw [List.take_add_one, List.all_append, List.getElem?_eq_getElem hj]
  simp [nth, List.getD, hj]
theorem fault_first {l : List InstT} {k : Nat} (h : (makT l k (nthI l k).2.2.1).isSome = true) : faultAt l k = 90 := by unfold faultAt; rw [if_pos h]
theorem allMade_false {l : List InstT} {k : Nat} {zs : List Int} {j : Nat} (hj : j < zs.length) (h : (makT l k (nth zs j)).isSome = false) : allMade l k zs = false := by
  unfold allMade
  rw [List.all_eq_false]
  refine ⟨nth zs j, ?_, by rw [h]; simp⟩
  simp only [nth, List.getD, List.getElem?_eq_getElem hj]
  exact List.getElem_mem hj
theorem fault_unknown {l : List InstT} {k j : Nat} (h : (makT l k (nthI l k).2.2.1).isSome = false) (hj : j < (idsI (nthI l k)).length) (hn : (makT l l.length (nth (idsI (nthI l k)) j)).isSome = false) : faultAt l k = 91 := by
  unfold faultAt; rw [if_neg (by rw [h]; simp), if_pos (allMade_false hj hn)]
theorem faultAt_end {l : List InstT} {k : Nat} (h : (makT l k (nthI l k).2.2.1).isSome = false) (hall : allMade l l.length ((idsI (nthI l k)).take (idsI (nthI l k)).length) = true) : faultAt l k = if aheadJ l k (idsI (nthI l k)).length = true then 92 else 0 := by
  rw [List.take_length] at hall
  unfold faultAt aheadJ
  rw [if_neg (by rw [h]; simp), if_neg (by rw [hall]; simp), List.take_length]
  by_cases h7 : partI (nthI l k) = 7 <;> cases allMade l k (idsI (nthI l k)) <;> simp [h7]
end Go.Proofs.Ytjckgnpbjekhbaa

/-
  Ids numbered as they are made: in plain mathematics.
-/
namespace Go.Proofs.Ytjckgnpbjekhbaa
open Go.RowKit
set_option linter.unusedVariables false
set_option linter.unusedSimpArgs false

/-- How many of the first k make an id. -/
def cntR (l : List InstT) : Nat → Nat
  | 0 => 0
  | k + 1 => cntR l k + (if (nthI l k).2.2.1 = 0 then 0 else 1)
theorem cntR_le (l : List InstT) : ∀ k, cntR l k ≤ k
  | 0 => Nat.le_refl _
  | k + 1 => by rw [cntR]; have := cntR_le l k; split <;> omega
theorem cntR_mono (l : List InstT) {j k : Nat} (h : j ≤ k) : cntR l j ≤ cntR l k := by
  induction k with
  | zero => rw [show j = 0 by omega]; exact Nat.le_refl _
  | succ k ih =>
    by_cases e : j = k + 1
    · rw [e]; exact Nat.le_refl _
    · rw [cntR]; have := ih (by omega); omega
/-- The numbers of the ids that the first k make. -/
def rnT (l : List InstT) (k : Nat) (id : Int) : Option Int := (makT l k id).map fun p => ((cntR l p.toNat + 1 : Nat) : Int)
def rnF (l : List InstT) (id : Int) : Int := (rnT l l.length id).getD 0
theorem rnT_skip {l : List InstT} {k : Nat} (h : (nthI l k).2.2.1 = 0) (y : Int) : rnT l (k + 1) y = rnT l k y := by
  unfold rnT
  congr 1
  rw [makT, h]
  by_cases e : (makT l k y).isSome = true
  · rw [if_pos e]
  · rw [if_neg e, if_neg (fun e2 => e2.2 e2.1.symm)]
    cases hm : makT l k y with
    | none => rfl
    | some p => rw [hm] at e; simp at e
theorem rnT_next {l : List InstT} {k : Nat} (h : (nthI l k).2.2.1 ≠ 0) (hf : (makT l k (nthI l k).2.2.1).isSome = false) (y : Int) : (if y = (nthI l k).2.2.1 then some ((cntR l k + 1 : Nat) : Int) else rnT l k y) = rnT l (k + 1) y := by
  unfold rnT
  rw [makT]
  by_cases e : y = (nthI l k).2.2.1
  · subst e
    rw [if_pos rfl, hf, if_neg (by simp), if_pos ⟨rfl, h⟩]
    simp
  · rw [if_neg e]
    by_cases e2 : (makT l k y).isSome = true
    · rw [if_pos e2]
    · rw [if_neg e2, if_neg (fun e3 => e e3.1.symm)]
      cases hm : makT l k y with
      | none => rfl
      | some p => rw [hm] at e2; simp at e2
theorem rnT_none {l : List InstT} {k : Nat} {y : Int} (h : (makT l k y).isSome = false) : rnT l k y = none := by
  unfold rnT
  cases hm : makT l k y with
  | none => rfl
  | some p => rw [hm] at h; simp at h
theorem maker_at {l : List InstT} {y p : Int} : ∀ {k : Nat}, makT l k y = some p → (nthI l p.toNat).2.2.1 = y ∧ y ≠ 0
  | 0, h => by cases h
  | k + 1, h => by
    rw [makT] at h
    split at h
    · exact maker_at h
    · split at h
      · next h2 => cases h; simpa using h2
      · cases h
theorem rnT_range {l : List InstT} {k : Nat} {y v : Int} (h : rnT l k y = some v) : 0 < v ∧ v ≤ (cntR l k : Int) := by
  unfold rnT at h
  cases hm : makT l k y with
  | none => rw [hm] at h; cases h
  | some p =>
    rw [hm] at h
    simp only [Option.map_some, Option.some.injEq] at h
    subst h
    have hr := makT_some l y k p hm
    refine ⟨by omega, ?_⟩
    have hmk : (nthI l p.toNat).2.2.1 = y ∧ y ≠ 0 := maker_at hm
    have h1 : cntR l (p.toNat + 1) = cntR l p.toNat + 1 := by rw [cntR, if_neg (by rw [hmk.1]; exact hmk.2)]
    have h2 := cntR_mono l (show p.toNat + 1 ≤ k by omega)
    omega
theorem rnF_range (l : List InstT) (y : Int) : 0 ≤ rnF l y ∧ rnF l y ≤ (cntR l l.length : Int) := by
  unfold rnF
  cases hm : rnT l l.length y with
  | none => simp
  | some v => have := rnT_range hm; simp; omega
/-- Other ids by two functions that agree on the ids. -/
theorem turnX_congr {f g : Int → Int} {x : InstT} (ht : x.2.1 ≠ 0 → f x.2.1 = g x.2.1) (hr : x.2.2.1 ≠ 0 → f x.2.2.1 = g x.2.2.1) (ha : ∀ j, j < x.2.2.2.length → (nthA x.2.2.2 j).1 = 1 → f (nthA x.2.2.2 j).2.1 = g (nthA x.2.2.2 j).2.1) : turnX f x = turnX g x := by
  have t1 : tN f x.2.1 = tN g x.2.1 := by unfold tN; split; rfl; next h => exact ht h
  have t2 : tN f x.2.2.1 = tN g x.2.2.1 := by unfold tN; split; rfl; next h => exact hr h
  have t3 : x.2.2.2.map (tA f) = x.2.2.2.map (tA g) := by
    refine List.map_congr_left fun y hy => ?_
    obtain ⟨j, hj, rfl⟩ := List.getElem_of_mem hy
    have h1 := ha j hj
    rw [show nthA x.2.2.2 j = x.2.2.2[j] by simp [nthA, List.getD, hj]] at h1
    unfold tA
    split
    · next h => rw [h1 h]
    · rfl
  unfold turnX
  rw [t1, t2, t3]
theorem turnL_congr {f g : Int → Int} {l : List InstT} (h : ∀ k, k < l.length → turnX f (nthI l k) = turnX g (nthI l k)) : turnL f l = turnL g l := by
  unfold turnL
  refine List.map_congr_left fun y hy => ?_
  obtain ⟨j, hj, rfl⟩ := List.getElem_of_mem hy
  have h1 := h j hj
  rw [show nthI l j = l[j] by simp [nthI, List.getD, hj]] at h1
  exact h1
/-- What holds of a module whose ids are sound. -/
theorem ids_sound {b : Int} {l : List InstT} (h : (idsE b l).1 = 0) : (layE b l).1 = 0 ∧ idsE b l = (0, 0) ∧ ∀ k, k < l.length → faultAt l k = 0 := by
  unfold idsE at h
  by_cases h1 : (layE b l).1 = 0
  · rw [if_neg (by simpa using h1)] at h
    have key : ∀ m k, (idsF l m k).1 = 0 → ∀ i, i < m → faultAt l (k + i) = 0 := by
      intro m
      induction m with
      | zero => intro k _ i hi; omega
      | succ m ih =>
        intro k h0 i hi
        rw [idsF] at h0
        by_cases e : faultAt l k = 0
        · rw [if_neg (by simpa using e)] at h0
          by_cases e2 : i = 0
          · rw [e2]; exact e
          · have := ih (k + 1) h0 (i - 1) (by omega)
            rwa [show k + 1 + (i - 1) = k + i by omega] at this
        · rw [if_pos e] at h0; exact absurd h0 e
    have hall : ∀ i, i < l.length → faultAt l i = 0 := fun i hi => by have := key l.length 0 h i hi; rwa [Nat.zero_add] at this
    refine ⟨h1, ?_, hall⟩
    unfold idsE
    rw [if_neg (by simpa using h1)]
    exact idsF_done hall
  · rw [if_pos h1] at h; exact absurd h h1
theorem fresh_at {l : List InstT} {k : Nat} (h : faultAt l k = 0) : (makT l k (nthI l k).2.2.1).isSome = false := by
  cases e : (makT l k (nthI l k).2.2.1).isSome with
  | false => rfl
  | true => rw [fault_first e] at h; cases h
end Go.Proofs.Ytjckgnpbjekhbaa

/-
  Pairs of ids: when they are one to one, and what stands beside an id; in plain mathematics.
-/
namespace Go.Proofs.Ytjckgnpbjekhbaa
open Go.RowKit
set_option linter.unusedVariables false
set_option linter.unusedSimpArgs false

/-- What stands beside x. -/
def thF (l : List (Int × Int)) (x : Int) : Option Int := (l.find? fun p => p.1 == x).map (·.2)
def bkF (l : List (Int × Int)) (y : Int) : Option Int := (l.find? fun p => p.2 == y).map (·.1)
/-- One to one. -/
def Bij (l : List (Int × Int)) : Prop := ∀ p ∈ l, ∀ q ∈ l, (p.1 = q.1 ↔ p.2 = q.2)
theorem bij_nil : Bij [] := fun p hp => by simp at hp
theorem thF_some {l : List (Int × Int)} {x y : Int} (h : thF l x = some y) : (x, y) ∈ l := by
  unfold thF at h
  cases hf : l.find? (fun p => p.1 == x) with
  | none => rw [hf] at h; cases h
  | some p =>
    rw [hf] at h
    simp only [Option.map_some, Option.some.injEq] at h
    have h1 := List.find?_some hf
    have h2 := List.mem_of_find?_eq_some hf
    simp only [beq_iff_eq] at h1
    rw [← h1, ← h]; exact h2
theorem bkF_some {l : List (Int × Int)} {x y : Int} (h : bkF l y = some x) : (x, y) ∈ l := by
  unfold bkF at h
  cases hf : l.find? (fun p => p.2 == y) with
  | none => rw [hf] at h; cases h
  | some p =>
    rw [hf] at h
    simp only [Option.map_some, Option.some.injEq] at h
    have h1 := List.find?_some hf
    have h2 := List.mem_of_find?_eq_some hf
    simp only [beq_iff_eq] at h1
    rw [← h1, ← h]; exact h2
theorem thF_none {l : List (Int × Int)} {x : Int} (h : thF l x = none) : ∀ p ∈ l, p.1 ≠ x := by
  intro p hp e
  unfold thF at h
  rw [Option.map_eq_none_iff, List.find?_eq_none] at h
  exact h p hp (by simpa using e)
theorem bkF_none {l : List (Int × Int)} {y : Int} (h : bkF l y = none) : ∀ p ∈ l, p.2 ≠ y := by
  intro p hp e
  unfold bkF at h
  rw [Option.map_eq_none_iff, List.find?_eq_none] at h
  exact h p hp (by simpa using e)
theorem thF_mem {l : List (Int × Int)} {x y : Int} (hB : Bij l) (h : (x, y) ∈ l) : thF l x = some y := by
  cases hf : thF l x with
  | none => exact absurd rfl (thF_none hf _ h)
  | some z =>
    have h2 := thF_some hf
    have := (hB _ h _ h2).1 rfl
    simp only at this
    rw [this]
theorem bkF_mem {l : List (Int × Int)} {x y : Int} (hB : Bij l) (h : (x, y) ∈ l) : bkF l y = some x := by
  cases hf : bkF l y with
  | none => exact absurd rfl (bkF_none hf _ h)
  | some z =>
    have h2 := bkF_some hf
    have := (hB _ h _ h2).2 rfl
    simp only at this
    rw [this]
theorem Bij.front {l m : List (Int × Int)} (h : Bij (l ++ m)) : Bij l := fun p hp q hq => h p (by simp [hp]) q (by simp [hq])
/-- Neither is there: both may come. -/
theorem join_new {l : List (Int × Int)} {a b : Int} (hB : Bij l) (h1 : thF l a = none) (h2 : bkF l b = none) : Bij (l ++ [(a, b)]) ∧ (∀ y, (if y = a then some b else thF l y) = thF (l ++ [(a, b)]) y) ∧ (∀ y, (if y = b then some a else bkF l y) = bkF (l ++ [(a, b)]) y) := by
  have n1 := thF_none h1
  have n2 := bkF_none h2
  refine ⟨fun p hp q hq => ?_, fun y => ?_, fun y => ?_⟩
  · rcases List.mem_append.1 hp with hp | hp <;> rcases List.mem_append.1 hq with hq | hq
    · exact hB p hp q hq
    · rw [List.mem_singleton] at hq; subst hq; exact ⟨fun e => absurd e (n1 p hp), fun e => absurd e (n2 p hp)⟩
    · rw [List.mem_singleton] at hp; subst hp; exact ⟨fun e => absurd e.symm (n1 q hq), fun e => absurd e.symm (n2 q hq)⟩
    · rw [List.mem_singleton] at hp hq; subst hp hq; exact ⟨fun _ => rfl, fun _ => rfl⟩
  · unfold thF at *
    rw [List.find?_append]
    by_cases e : y = a
    · subst e
      rw [if_pos rfl, Option.map_eq_none_iff.1 h1]
      simp
    · rw [if_neg e]
      cases hf : l.find? (fun p => p.1 == y) with
      | none => simp; intro e2; exact absurd e2.symm e
      | some p => simp
  · unfold bkF at *
    rw [List.find?_append]
    by_cases e : y = b
    · subst e
      rw [if_pos rfl, Option.map_eq_none_iff.1 h2]
      simp
    · rw [if_neg e]
      cases hf : l.find? (fun p => p.2 == y) with
      | none => simp; intro e2; exact absurd e2.symm e
      | some p => simp
/-- One of them is there: it must be beside the other one. -/
theorem join_old {l : List (Int × Int)} {a b : Int} (hB : Bij l) (h : ¬ (thF l a = none ∧ bkF l b = none)) : Bij (l ++ [(a, b)]) ↔ (bkF l b = some a ∧ thF l a = some b) := by
  constructor
  · intro hJ
    have hm : (a, b) ∈ l ++ [(a, b)] := by simp
    by_cases e : thF l a = none
    · exfalso
      refine h ⟨e, ?_⟩
      cases hf : bkF l b with
      | none => rfl
      | some z =>
        have h2 := bkF_some hf
        have := (hJ _ (List.mem_append_left _ h2) _ hm).2 rfl
        exact absurd this (thF_none e _ h2)
    · cases hf : thF l a with
      | none => exact absurd hf e
      | some z =>
        have h2 := thF_some hf
        have := (hJ _ (List.mem_append_left _ h2) _ hm).1 rfl
        simp only at this
        subst this
        exact ⟨bkF_mem hB h2, rfl⟩
  · rintro ⟨h1, h2⟩
    have hm := thF_some h2
    intro p hp q hq
    have hin : ∀ r, r ∈ l ++ [(a, b)] → r ∈ l := fun r hr => by
      rcases List.mem_append.1 hr with hr | hr
      · exact hr
      · rw [List.mem_singleton] at hr; subst hr; exact hm
    exact hB p (hin p hp) q (hin q hq)
theorem join_same {l : List (Int × Int)} {a b : Int} (hB : Bij l) (h2 : thF l a = some b) : (∀ y, thF l y = thF (l ++ [(a, b)]) y) ∧ (∀ y, bkF l y = bkF (l ++ [(a, b)]) y) := by
  have hm := thF_some h2
  refine ⟨fun y => ?_, fun y => ?_⟩
  · unfold thF
    rw [List.find?_append]
    cases hf : l.find? (fun p => p.1 == y) with
    | none =>
      rw [List.find?_eq_none] at hf
      have := hf _ hm
      simp only [beq_iff_eq] at this
      simp
      intro e; exact this e
    | some p => simp
  · unfold bkF
    rw [List.find?_append]
    cases hf : l.find? (fun p => p.2 == y) with
    | none =>
      rw [List.find?_eq_none] at hf
      have := hf _ hm
      simp only [beq_iff_eq] at this
      simp
      intro e; exact this e
    | some p => simp
/-- All ids of an instruction: those that it names, and the one that it makes. -/
def allI (x : InstT) : List Int := idsI x ++ (if x.2.2.1 = 0 then [] else [x.2.2.1])
end Go.Proofs.Ytjckgnpbjekhbaa
