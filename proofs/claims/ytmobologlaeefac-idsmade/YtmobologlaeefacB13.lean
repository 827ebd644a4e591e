/-
  Texts laid together in one: MapU, IdsMakers, IdsMade, Ref09Made, KitCopyInst.
-/
import Derived.WalkSpells
import Derived.WalkMore
import Derived.Maps.OwnSet
import Derived.Test.YtmobologlaeefacProg
import Derived.Test.YtmobologlaeefacB01
import Derived.Test.YtmobologlaeefacB10
import Derived.BigRegion
import Derived.Test.YtmobologlaeefacB07
import Derived.Test.YtmobologlaeefacB12
import Derived.Deep.RegionWith
import Derived.Deep.DrawnRows
import Derived.Deep.QuietTactic
import Derived.BigQuiet
/-
  A map by words, with numbers in it, as a function of its keys.
-/
namespace Go.Proofs.Ytmobologlaeefac
open Go.RowKit Go.Maps
set_option linter.unusedVariables false
set_option linter.unusedSimpArgs false
set_option maxRecDepth 10000

theorem keyU : Keyed Try.prog 22 := int_keyed Try.underlying22
theorem keyU_of {x : Int} (h0 : 0 ≤ x) (h1 : x < 4294967296) : keyOf Try.prog 22 (.int .u32 x) = some (.int .u32 x) := keyOf_int_mk Try.underlying22 (by simp [Lit.wf, show IntKind.u32.min = 0 from rfl, show IntKind.u32.max = 4294967295 from rfl]; omega)

/-- Block b is a map of at most n entries: at the key x stands f x. -/
def MapU (w : World) (E : TypeId) (q : IntKind) (b n : Nat) (f : Int → Option Int) : Prop :=
  ∃ D : DataW Unit, w.ownsMap Try.prog 22 (plainElem Try.prog E) b n D ∧ (∀ x, Maps.has D (.int .u32 x) = (f x).isSome) ∧ ∀ x, D.atKey (.int .u32 x) (.lit (.int q 0)) = .lit (.int q ((f x).getD 0))
theorem MapU.made (w : World) (E : TypeId) (q : IntKind) : MapU (w.alloc (.map #[] 0)) E q w.heap.size 0 (fun _ => none) :=
  ⟨.map [], World.ownsMap_made _ _ _ _, fun x => rfl, fun x => rfl⟩
theorem MapU.lt {w : World} {E : TypeId} {q : IntKind} {b n : Nat} {f : Int → Option Int} (h : MapU w E q b n f) : b < w.heap.size := by obtain ⟨D, h1, _⟩ := h; exact h1.lt
theorem MapU.below {w w' : World} {E : TypeId} {q : IntKind} {b n : Nat} {f : Int → Option Int} (h : MapU w E q b n f) (hb : Below w.heap.size w w') : MapU w' E q b n f := by
  have hl := h.lt
  obtain ⟨D, ⟨es, ck, h1, h2⟩, h3⟩ := h
  exact ⟨D, ⟨es, ck, (hb.block b hl).trans h1, h2⟩, h3⟩
theorem MapU.block {w w' : World} {E : TypeId} {q : IntKind} {b n : Nat} {f : Int → Option Int} (h : MapU w E q b n f) (hb : w'.heap[b]? = w.heap[b]?) : MapU w' E q b n f := by
  obtain ⟨D, ⟨es, ck, h1, h2⟩, h3⟩ := h
  exact ⟨D, ⟨es, ck, hb.trans h1, h2⟩, h3⟩
theorem MapU.mono {w : World} {E : TypeId} {q : IntKind} {b n n' : Nat} {f : Int → Option Int} (h : MapU w E q b n f) (hn : n ≤ n') : MapU w E q b n' f := by
  obtain ⟨D, h1, h2⟩ := h
  exact ⟨D, h1.mono hn, h2⟩
theorem MapU.congr {w : World} {E : TypeId} {q : IntKind} {b n : Nat} {f g : Int → Option Int} (h : MapU w E q b n f) (e : ∀ x, f x = g x) : MapU w E q b n g := by
  have : f = g := funext e
  rw [← this]; exact h
theorem MapU.put {w' : World} {E : TypeId} {q : IntKind} {b n' : Nat} {f : Int → Option Int} {D : DataW Unit} {x v : Int} (hD : IsMap D) (h1 : ∀ x, Maps.has D (.int .u32 x) = (f x).isSome) (h2 : ∀ x, D.atKey (.int .u32 x) (.lit (.int q 0)) = .lit (.int q ((f x).getD 0)))
    (h : w'.ownsMap Try.prog 22 (plainElem Try.prog E) b n' (D.put (.int .u32 x) (.lit (.int q v)))) : MapU w' E q b n' (fun y => if y = x then some v else f y) := by
  refine ⟨_, h, fun y => ?_, fun y => ?_⟩
  · show _ = (if y = x then some v else f y).isSome
    by_cases e : y = x
    · subst e; rw [if_pos rfl]; exact has_put_same (k := .int .u32 y) hD (by simp [WideAt.IsKeyLit]) _
    · rw [if_neg e, ← h1 y]; exact has_put_other (by simpa using e) _
  · show _ = DataW.lit (.int q ((if y = x then some v else f y).getD 0))
    by_cases e : y = x
    · subst e; rw [if_pos rfl]; exact atKey_put_same (k := .int .u32 y) hD (by simp [WideAt.IsKeyLit]) _ _
    · rw [if_neg e, ← h2 y]; exact atKey_put_other (by simpa using e) _ _

section
variable {w : World} {ops : Array Oper} {rest : List Oper} {o : Oper} {a : Act} {Q : Exit → Act → World → Prop}
/-- 'v, ok := m[x]'. -/
theorem wpList_lookU_ok (hg : o.guard = none) (m x : Operand) (t : TypeId) (hop : o.op = Op.lookup t m x true) (E : TypeId) (q : IntKind) (ht : Try.prog.underlying t = some (.map 22 E)) (he : Try.prog.underlying E = some (.int q)) (hz : (zeroValue E).run Try.prog w = .ok (.int q 0) w)
    (b n : Nat) (f : Int → Option Int) (hm : a.eval m = .map (some b)) (h : MapU w E q b n f) (key : Int) (hx : a.eval x = .int .u32 key) (k0 : 0 ≤ key) (k1 : key < 4294967296)
    (hK : wpList Try.prog ops Q rest (a.put o.dst (.tuple #[.int q ((f key).getD 0), .bool (f key).isSome])) w) : wpList Try.prog ops Q (o :: rest) a w := by
  obtain ⟨D, h1, h2, h3⟩ := h
  refine wpList_lookup_own_ok_int w hg m x t hop 22 E q keyU ht he hz b n D hm h1 _ _ hx (keyU_of k0 k1) ?_
  intro c hat _
  rw [h3] at hat
  simp only [DataW.lit.injEq, Lit.int.injEq, true_and] at hat
  rw [← hat, h2]
  exact hK
/-- 'v := m[x]'. -/
theorem wpList_lookU (hg : o.guard = none) (m x : Operand) (t : TypeId) (hop : o.op = Op.lookup t m x false) (E : TypeId) (q : IntKind) (ht : Try.prog.underlying t = some (.map 22 E)) (he : Try.prog.underlying E = some (.int q)) (hz : (zeroValue E).run Try.prog w = .ok (.int q 0) w)
    (b n : Nat) (f : Int → Option Int) (hm : a.eval m = .map (some b)) (h : MapU w E q b n f) (key : Int) (hx : a.eval x = .int .u32 key) (k0 : 0 ≤ key) (k1 : key < 4294967296)
    (hK : wpList Try.prog ops Q rest (a.put o.dst (.int q ((f key).getD 0))) w) : wpList Try.prog ops Q (o :: rest) a w := by
  obtain ⟨D, h1, h2, h3⟩ := h
  refine wpList_lookup_own_int w hg m x t hop 22 E q keyU ht he hz b n D hm h1 _ _ hx (keyU_of k0 k1) ?_
  intro c hat _
  rw [h3] at hat
  simp only [DataW.lit.injEq, Lit.int.injEq, true_and] at hat
  rw [← hat]
  exact hK
/-- 'm[x] = v'. -/
theorem wpList_putU (hg : o.guard = none) (m x v : Operand) (t : TypeId) (hop : o.op = Op.mapUpdate t m x v) (E : TypeId) (q : IntKind) (ht : Try.prog.underlying t = some (.map 22 E)) (he : Try.prog.underlying E = some (.int q))
    (b n : Nat) (f : Int → Option Int) (hm : a.eval m = .map (some b)) (h : MapU w E q b n f) (hn : n < maxLen) (key val : Int) (hx : a.eval x = .int .u32 key) (k0 : 0 ≤ key) (k1 : key < 4294967296) (hv : a.eval v = .int q val) (hw : (Lit.int q val).wf = true)
    (hK : ∀ w', MapU w' E q b (n + 1) (fun y => if y = key then some val else f y) → w.grownBy w' (some b) → wpList Try.prog ops Q rest (a.put o.dst undef) w') : wpList Try.prog ops Q (o :: rest) a w := by
  obtain ⟨D, h1, h2, h3⟩ := h
  refine wpList_mapUpdate_own w hg m x v t hop 22 E keyU ht _ b n D hm h1 hn _ _ _ hx hv (keyU_of k0 k1) _ [] (plainElem_int he hw) ?_
  intro w' h4 h5
  exact hK w' (MapU.put h1.isMap h2 h3 h4) h5
end

end Go.Proofs.Ytmobologlaeefac

/-
  makersOf of the package ids: a map from each id that is made to the least place at which it is made; the document's Maker.
-/
namespace Go.Proofs.Ytmobologlaeefac
open Go.RowKit Go.Maps
set_option linter.unusedVariables false
set_option linter.unusedSimpArgs false
set_option maxRecDepth 10000

/-- The least place below k at which an id is made. -/
def makT (l : List InstT) : Nat → Int → Option Int
  | 0, _ => none
  | k + 1, id => if (makT l k id).isSome = true then makT l k id else if (nthI l k).2.2.1 = id ∧ id ≠ 0 then some (k : Int) else none
def makV (l : List InstT) (k : Nat) (id : Int) : Int := (makT l k id).getD (-1)
theorem makT_some (l : List InstT) (id : Int) : ∀ k p, makT l k id = some p → 0 ≤ p ∧ p < (k : Int)
  | 0, p, h => by cases h
  | k + 1, p, h => by
    rw [makT] at h
    split at h
    · have := makT_some l id k p h; omega
    · split at h
      · cases h; omega
      · cases h
theorem makT_stays (l : List InstT) (id : Int) (k : Nat) (h : (makT l k id).isSome = true) : ∀ d, makT l (k + d) id = makT l k id
  | 0 => rfl
  | d + 1 => by
    have ih := makT_stays l id k h d
    rw [show k + (d + 1) = (k + d) + 1 by omega, makT, ih, if_pos h]
theorem makT_zero (l : List InstT) : ∀ k, makT l k 0 = none
  | 0 => rfl
  | k + 1 => by rw [makT, makT_zero l k]; simp

theorem zeroI64 (w : World) : (zeroValue 3).run Try.prog w = .ok (.int .i64 0) w := by kernel_rfl

set_option maxHeartbeats 8000000 in
theorem makersOf_any (a : Option Addr) (n c : Nat) (l : List InstT) (w : World) (hv : InstsV w a l) (hok : InstsOk l) (hl : l.length = n) (hn : 40 * n ≤ 140737488351232) :
    Calls Try.prog 30 #[.slice a n c] w fun e w' => ∃ b, e = .returned (.map (some b)) ∧ w.heap.size ≤ b ∧ MapU w' 3 .i64 b n (makT l n) ∧ Below w.heap.size w w' := by
  have HV := hide hv
  have HOK := hide hok
  have HL := hide hl
  have HN : Hid (40 * n ≤ 140737488351232) := hn
  have hmm := @run_makeMap Try.prog
  have HM0 := hide (MapU.made w 3 .i64)
  have HB0 := hide ((Below.refl _ w).alloc (Nat.le_refl _) (.map #[] 0))
  have HTT := hide Try.underlying55
  have HTE := hide Try.underlying3
  clear hv hok hl hn
  go_enter Try.func30, Try.ntmps30
  go_wp2_with fail
  generalize w.alloc (.map #[] 0) = W0 at *
  go_loopw [11] (fun i wr => ∃ k : Nat, k ≤ n ∧ i = .int .i64 k ∧ MapU wr 3 .i64 w.heap.size k (makT l k) ∧ Below w.heap.size w wr) (fun i _ => n - (intOf i).toNat)
  case atStart => exact ⟨0, Nat.zero_le _, rfl, HM0.out, HB0.out⟩
  case round =>
    obtain ⟨k, hk, rfl, hM, hB⟩ := hrel
    clear HM0 HB0 hmm
    have hA := HV.out.below hB
    have hkb : (k : Int) < 140737488351232 := by have := HN.out; omega
    by_cases hlt : k < n
    · have hkl : k < l.length := by rw [HL.out]; exact hlt
      obtain ⟨g1, o1, aj, cj, nj, rfl, hg1, p1, p2, p3, p4, p5, p6, p7⟩ := hA k hkl
      have hki : (k : Int) < (n : Int) := by omega
      have hk0 : (0 : Int) ≤ (k : Int) := by omega
      have hz := HOK.out k hkl
      have hr0 := hz.2.2.2.2.1
      have hr1 := hz.2.2.2.2.2.1
      have HSU : Hid (∀ id, makT l (k + 1) id = if (makT l k id).isSome = true then makT l k id else if (nthI l k).2.2.1 = id ∧ id ≠ 0 then some (k : Int) else none) := fun id => rfl
      have HBD : Hid ((k : Int) < 9223372036854775807 ∧ k < maxLen) := by have := HN.out; exact ⟨by omega, by unfold maxLen; omega⟩
      generalize nthI l k = z at *
      obtain ⟨zo, zt, zr, zl⟩ := z
      simp only at *
      have hba : Below wr.heap.size wr (wr.alloc (.cells #[.int .u16 zo, .int .u32 zt, .int .u32 zr, .slice aj nj cj] 51)) := (Below.refl _ wr).alloc (Nat.le_refl _) _
      have HM2 := hide (hM.below hba)
      have HB2 := hide (hB.trans (hba.mono hB.size))
      have HR := hide (And.intro hr0 hr1)
      by_cases hz0 : zr = 0
      · subst hz0
        have HE : Hid (∀ id, makT l k id = makT l (k + 1) id) := fun id => by
          rw [HSU.out id]
          by_cases h : (makT l k id).isSome = true
          · rw [if_pos h]
          · rw [if_neg h, if_neg (by rintro ⟨rfl, h2⟩; exact h2 rfl)]; simpa using h
        clear hA hM hB p5 p6 p7 hz HSU
        go_wp2_with fail
        go_roundw
        case rel => exact ⟨k + 1, by omega, by go_num, (HM2.out.congr HE.out).mono (Nat.le_succ _), HB2.out⟩
        case measure => simp [intOf]; omega
      · have hz0' : (zr == 0) = false := by simpa using hz0
        have hlz : wr.heap.size < (wr.alloc (.cells #[.int .u16 zo, .int .u32 zt, .int .u32 zr, .slice aj nj cj] 51)).heap.size := by simp
        have r2 : (wr.alloc (.cells #[.int .u16 zo, .int .u32 zt, .int .u32 zr, .slice aj nj cj] 51)).cell? ⟨wr.heap.size, 2, none⟩ = some (.int .u32 zr) := (one_block (heap_alloc_new wr (.cells #[.int .u16 zo, .int .u32 zt, .int .u32 zr, .slice aj nj cj] 51))).1 2
        have HR2 := hide r2
        by_cases hs : (makT l k zr).isSome = true
        · have HE : Hid (∀ id, makT l k id = makT l (k + 1) id) := fun id => by
            rw [HSU.out id]
            by_cases h : (makT l k id).isSome = true
            · rw [if_pos h]
            · rw [if_neg h, if_neg (by rintro ⟨rfl, h2⟩; exact h hs)]; simpa using h
          clear hA hM hB p5 p6 p7 hz HSU r2
          go_wp2_with (at_lookup; refine wpList_lookU_ok rfl _ _ 55 rfl 3 .i64 HTT.out HTE.out (zeroI64 _) w.heap.size k (makT l k) rfl HM2.out zr rfl HR.out.1 HR.out.2 ?_; rw [hs])
          go_roundw
          case rel => exact ⟨k + 1, by omega, by go_num, (HM2.out.congr HE.out).mono (Nat.le_succ _), HB2.out⟩
          case measure => simp [intOf]; omega
        · have hs' : (makT l k zr).isSome = false := by simpa using hs
          have HE : Hid (∀ id, (if id = zr then some (k : Int) else makT l k id) = makT l (k + 1) id) := fun id => by
            rw [HSU.out id]
            by_cases e : id = zr
            · subst e; rw [if_pos rfl, if_neg hs, if_pos ⟨rfl, hz0⟩]
            · rw [if_neg e]
              by_cases h : (makT l k id).isSome = true
              · rw [if_pos h]
              · rw [if_neg h, if_neg (by rintro ⟨rfl, _⟩; exact e rfl)]; simpa using h
          clear hA hM hB p5 p6 p7 hz HSU hs
          have hwf : (Lit.int .i64 (k : Int)).wf = true := WalkArith.wf_i64 (by have := HBD.out.1; omega)
          have HWF := hide hwf
          clear hwf
          go_wp2_with (first | (at_lookup; refine wpList_lookU_ok rfl _ _ 55 rfl 3 .i64 HTT.out HTE.out (zeroI64 _) w.heap.size k (makT l k) rfl HM2.out zr rfl HR.out.1 HR.out.2 ?_; rw [hs']) | (at_mapUpdate; refine wpList_putU rfl _ _ _ 55 rfl 3 .i64 HTT.out HTE.out w.heap.size k (makT l k) rfl HM2.out HBD.out.2 zr (k : Int) rfl HR.out.1 HR.out.2 rfl HWF.out ?_; intro w5 hM5 hg5) | go_in)
          have HB5 := hide (HB2.out.grown hg5 HB2.out.size (fun j hj => by cases hj; exact Nat.le_refl _))
          have HM5 := hide (hM5.congr HE.out)
          clear hM5 hg5
          go_wp2_with fail
          go_roundw
          case rel => exact ⟨k + 1, by omega, by go_num, HM5.out, HB5.out⟩
          case measure => simp [intOf]; omega
    · obtain rfl : k = n := by omega
      have HM := hide hM
      have HB := hide hB
      clear hA hM hB
      go_wp2_with fail
      go_ret
      exact ⟨w.heap.size, rfl, Nat.le_refl _, HM.out, HB.out⟩

set_option maxHeartbeats 4000000 in
theorem refMaker_any (a : Option Addr) (n c : Nat) (l : List InstT) (id : Int) (to : Nat) (w : World) (hv : InstsV w a l) (hl : l.length = n) (hn : n ≤ 140737488351232) (ht : to ≤ n) :
    Calls Try.prog 28 #[.slice a n c, .int .u32 id, .int .i64 to] w fun e w' => e = .returned (.int .i64 (makV l to id)) ∧ w = w' := by
  have HV := hide hv
  have HL := hide hl
  unfold makV
  clear hv hl
  go_enter Try.func28, Try.ntmps28
  go_wp2_with fail
  go_loopw [7] (fun i wr => ∃ k : Nat, k ≤ to ∧ i = .int .i64 k ∧ makT l k id = none ∧ w = wr) (fun i _ => to - (intOf i).toNat)
  case atStart => exact ⟨0, Nat.zero_le _, rfl, rfl, rfl⟩
  case round =>
    obtain ⟨k, hk, rfl, hM, rfl⟩ := hrel
    have HM := hide hM
    clear hM
    by_cases hlt : k < to
    · have hkl : k < l.length := by rw [HL.out]; omega
      obtain ⟨g1, o1, aj, cj, nj, rfl, hg1, p1, p2, p3, p4, p5, p6, p7⟩ := HV.out k hkl
      have hki : (k : Int) < (n : Int) := by omega
      have hkt : (k : Int) < (to : Int) := by omega
      have hk0 : (0 : Int) ≤ (k : Int) := by omega
      have HSU : Hid (makT l (k + 1) id = if (nthI l k).2.2.1 = id ∧ id ≠ 0 then some (k : Int) else none) := by show _ = _; rw [makT, HM.out]; rfl
      have HST : Hid ((makT l (k + 1) id).isSome = true → makT l to id = makT l (k + 1) id) := fun h => by have := makT_stays l id (k + 1) h (to - (k + 1)); rwa [show k + 1 + (to - (k + 1)) = to by omega] at this
      generalize (nthI l k).2.2.1 = zr at *
      clear p1 p2 p4 p5 p6 p7
      by_cases he : zr = id ∧ id ≠ 0
      · obtain ⟨rfl, h0⟩ := he
        have h0' : (zr != 0) = true := by simpa using h0
        have h1' : (zr == zr) = true := by simp
        have HRE : Hid ((makT l to zr).getD (-1) = (k : Int)) := by
          have e := HSU.out
          rw [if_pos ⟨rfl, h0⟩] at e
          show _ = _
          rw [HST.out (by rw [e]; rfl), e]; rfl
        clear HSU HST h0
        go_wp2_with fail
        go_ret
        exact ⟨by rw [HRE.out]; rfl, rfl⟩
      · have HRE : Hid (makT l (k + 1) id = none) := by show _ = _; rw [HSU.out, if_neg he]
        by_cases h1 : zr = id
        · subst h1
          have h0 : zr = 0 := by
            by_cases h : zr = 0
            · exact h
            · exact absurd ⟨rfl, h⟩ he
          subst h0
          clear HSU HST he
          go_wp2_with fail
          go_roundw
          case rel => exact ⟨k + 1, by omega, by go_num, HRE.out, by first | rfl | trivial⟩
          case measure => simp [intOf]; omega
        · have h1' : (zr == id) = false := by simpa using h1
          clear HSU HST he h1
          go_wp2_with fail
          go_roundw
          case rel => exact ⟨k + 1, by omega, by go_num, HRE.out, by first | rfl | trivial⟩
          case measure => simp [intOf]; omega
    · obtain rfl : k = to := by omega
      have HRE : Hid ((makT l k id).getD (-1) = -1) := by show _ = _; rw [HM.out]; rfl
      clear HM
      go_wp2_with fail
      go_ret
      exact ⟨by rw [HRE.out]; rfl, rfl⟩

end Go.Proofs.Ytmobologlaeefac

/-
  Made of the package ids.
-/
namespace Go.Proofs.Ytmobologlaeefac
open Go.RowKit Go.Maps
set_option linter.unusedVariables false
set_option linter.unusedSimpArgs false
set_option maxRecDepth 10000

/-- By ids, the places at which they are made. -/
def madeZ (l : List InstT) (N : Nat) : List Int := (List.range N).map fun (id : Nat) => makV l l.length (id : Int)
def madeL (b : Int) (l : List InstT) : List Int := if (shapeE b l).1 = 0 then madeZ l b.toNat else []
theorem madeZ_len (l : List InstT) (N : Nat) : (madeZ l N).length = N := by simp [madeZ]
theorem madeZ_at (l : List InstT) (N k : Nat) (h : k < N) : nth (madeZ l N) k = makV l l.length (k : Int) := by simp [nth, madeZ, List.getD, h]
theorem shape_bndU {b : Int} {l : List InstT} (h : (shapeE b l).1 = 0) : 1 ≤ b ∨ b < 0 ∧ b ≤ 65536 := by
  unfold shapeE at h
  split at h
  · cases h
  · omega
theorem shape_maxU {b : Int} {l : List InstT} (h : (shapeE b l).1 = 0) : b ≠ 0 ∧ b ≤ 65536 := by
  unfold shapeE at h
  split at h
  · cases h
  · omega

set_option maxHeartbeats 8000000 in
theorem idsMade_any (gen bnd : Int) (a : Option Addr) (n c : Nat) (l : List InstT) (w : World) (hv : InstsV w a l) (hok : InstsOk l) (hl : l.length = n) (hn : 40 * n ≤ 140737488351232) (g0 : 0 ≤ gen) (g1 : gen < 4294967296) (b0 : 0 ≤ bnd) (b1 : bnd < 4294967296) :
    Calls Try.prog 9 #[modV gen bnd a n c] w fun e w' => UsesQ w w' (madeL bnd l) (shapeE bnd l) e := by
  obtain ⟨i0, hi, hz0, hz1, hz2⟩ := info_parts IntsU.info
  have HI : Hid (Try.prog.info? 3 = some i0 ∧ i0.zero = some (.int .i64 0) ∧ i0.size = 1 ∧ i0.bytes = 8) := ⟨hi, hz0, hz1, hz2⟩
  clear hi hz0 hz1 hz2
  have hb0 : Below w.heap.size w ((w.alloc (.cells #[.int .u32 gen, .int .u32 bnd, .slice a n c] 25)).alloc (.cells #[.int .i64 0, .int .i64 0] 29)) := ((Below.refl _ w).alloc (Nat.le_refl _) _).alloc (by simp) _
  have hSh := codeShape_any gen bnd a n c l _ g0 g1 b0 b1 (hv.below hb0) hok hl hn
  have k0 : ((w.alloc (.cells #[.int .u32 gen, .int .u32 bnd, .slice a n c] 25)).alloc (.cells #[.int .i64 0, .int .i64 0] 29)).heap[w.heap.size]? = some (.cells #[.int .u32 gen, .int .u32 bnd, .slice a n c] 25 (0, 0)) := by rw [Below.heap_alloc _ _ _ (by simp)]; exact heap_alloc_new _ _
  have k1 : ((w.alloc (.cells #[.int .u32 gen, .int .u32 bnd, .slice a n c] 25)).alloc (.cells #[.int .i64 0, .int .i64 0] 29)).heap[w.heap.size + 1]? = some (.cells #[.int .i64 0, .int .i64 0] 29 (0, 0)) := by have := heap_alloc_new (w.alloc (.cells #[.int .u32 gen, .int .u32 bnd, .slice a n c] 25)) (.cells #[.int .i64 0, .int .i64 0] 29); simpa using this
  have HS1 := hide (And.intro k0 k1)
  have hs1 : ((w.alloc (.cells #[.int .u32 gen, .int .u32 bnd, .slice a n c] 25)).alloc (.cells #[.int .i64 0, .int .i64 0] 29)).heap.size = w.heap.size + 2 := by simp
  have HZ := hide hs1
  have HB0 := hide hb0
  have HV := hide hv
  have HOK := hide hok
  have HL := hide hl
  have HN : Hid (40 * n ≤ 140737488351232) := hn
  unfold madeL
  rcases shapeE_any bnd l with hE | hE
  · rw [if_pos (by rw [hE]), hE]
    have hbm := shape_maxU (b := bnd) (l := l) (by rw [hE])
    obtain ⟨N, rfl⟩ : ∃ N : Nat, bnd = (N : Int) := ⟨bnd.toNat, by omega⟩
    rw [show ((N : Int).toNat) = N from rfl]
    have hN1 : N ≤ 65536 := by omega
    have HZL := hide (madeZ_len l N)
    have HZA : Hid (∀ k, k < N → nth (madeZ l N) k = makV l n (k : Int)) := fun k hk => by rw [madeZ_at l N k hk, hl]
    generalize madeZ l N = zs at *
    rw [hE] at hSh
    unfold modV at *
    clear hE hb0 hv hok hl k0 k1 hs1 hn hbm
    go_enter Try.func9, Try.ntmps9
    go_wp2_with fail
    generalize (w.alloc (.cells #[.int .u32 gen, .int .u32 (N : Int), .slice a n c] 25)).alloc (.cells #[.int .i64 0, .int .i64 0] 29) = W0 at *
    refine hSh.mono ?_
    rintro e w1 ⟨rfl, hb1⟩
    have hba : Below w1.heap.size w1 (w1.alloc (.cells #[.int .i64 0, .int .i64 0] 29)) := (Below.refl _ w1).alloc (Nat.le_refl _) _
    have hbx := hb1.trans (hba.mono hb1.size)
    have q0 := (hbx.block _ (by rw [HZ.out]; omega)).trans HS1.out.1
    have q1 := (hbx.block _ (by rw [HZ.out]; omega)).trans HS1.out.2
    have HQ := hide (And.intro q0 q1)
    have HBX := hide (HB0.out.trans (hbx.mono HB0.out.size))
    have HW1 : Hid (w.heap.size + 2 ≤ w1.heap.size) := by show _ ≤ _; rw [← HZ.out]; exact hb1.size
    have HT := hide (heap_alloc_new w1 (.cells #[.int .i64 0, .int .i64 0] 29))
    clear hSh hb1 hba hbx q0 q1 HS1 HB0
    have m1 := (one_block HQ.out.1).1 1
    have m2 := (one_block HQ.out.1).1 2
    have hMk := makersOf_any a n c l _ (HV.out.below HBX.out) HOK.out HL.out HN.out
    go_wp2_with fail
    generalize w1.alloc (.cells #[.int .i64 0, .int .i64 0] 29) = W1 at *
    generalize w1.heap.size = B at *
    refine hMk.mono ?_
    rintro e w2 ⟨mb, rfl, hmb, hM, hb2⟩
    have HLS : Hid (w.heap.size + 1 < W1.heap.size) := (Array.getElem?_eq_some_iff.1 HQ.out.2).1
    have HQ2 := hide (And.intro ((hb2.block _ (Nat.lt_of_succ_lt HLS.out)).trans HQ.out.1) ((hb2.block _ HLS.out).trans HQ.out.2))
    have HM := hide hM
    have HBX2 := hide (HBX.out.trans (hb2.mono HBX.out.size))
    have HS2 : Hid (w.heap.size + 1 < w2.heap.size) := Nat.lt_of_lt_of_le HLS.out hb2.size
    have m1' := (one_block HQ2.out.1).1 1
    have HTT := hide Try.underlying55
    have HTE := hide Try.underlying3
    clear hMk hM hb2 HQ HBX m1 m2 HT
    go_wp2_with (at_make; refine wpList_make_full _ rfl _ _ 26 rfl w2.heap.size 3 i0 (.int .i64 0) 1 Try.underlying26 HI.out.1 HI.out.2.1 HI.out.2.2.1 _ _ _ _ N rfl rfl (by omega) (by omega) (by rw [HI.out.2.2.2]; omega) (by unfold maxLen; omega) (Nat.le_refl _) ?_)
    intro w3 hown3 hgrow3
    have hb3 : Below w2.heap.size w2 w3 := (Below.refl _ w2).grown hgrow3 (Nat.le_refl _) (by simp)
    have HR3 := hide (made_row zs hown3)
    have HB3 := hide hb3
    clear hown3 hgrow3 hb3 m1'
    go_wp2_with fail
    go_loopw [24] (fun i wr => ∃ k : Nat, k ≤ N ∧ i = .int .i64 k ∧ wr.ownsRow w2.heap.size 3 1 (.slice (some ⟨w2.heap.size, 0, none⟩) N N) N ((filled zs k N).map (Value.int .i64)) ∧ Below w2.heap.size w2 wr) (fun i _ => N - (intOf i).toNat)
    case atStart => exact ⟨0, Nat.zero_le _, rfl, HR3.out, HB3.out⟩
    case round =>
      obtain ⟨k, hk, rfl, hO, hB⟩ := hrel
      clear HR3 HB3
      by_cases hlt : k < N
      · have hki : (k : Int) < (N : Int) := by omega
        have hk0 : (0 : Int) ≤ (k : Int) := by omega
        have hwr : IntKind.u32.wrap (k : Int) = (k : Int) := by rw [IntKind.wrap_u32]; omega
        have hzk := HZA.out k hlt
        have hzl : k < zs.length := by rw [HZL.out]; exact hlt
        obtain ⟨d1, d2, d3⟩ := fill_step hO hlt hzl
        have hst := (hO.stored k (.int .i64 (-1))).1
        have e1 := hst.cellAt k (by omega)
        have e2 : (wr.setCell ⟨w2.heap.size, k, none⟩ (.int .i64 (-1))).frozen? ⟨w2.heap.size, k, none⟩ = false := hst.frozenAt k
        have hbel1 := hB.setCell (p := ⟨w2.heap.size, k, none⟩) (Nat.le_refl _) (.int .i64 (-1))
        have HMk := hide (HM.out.below hbel1)
        have hst2 := fun v => (hst.stored k (.int .i64 v)).1
        have HD3 := hide d3
        have HST := hide hst
        have HST2 := hide hst2
        have HFS : Hid (((filled zs k N).set k (nth zs k)).map (Value.int .i64) = (filled zs (k + 1) N).map (Value.int .i64)) := by show _ = _; rw [filled_set zs k N hlt hzl]
        have HBE := hide hB
        have e1' : (wr.setCell ⟨w2.heap.size, k, none⟩ (.int .i64 (-1))).cell? ⟨w2.heap.size, k, none⟩ = some (.int .i64 (-1)) := by rw [e1]; exact List.getElem?_set_self (by rw [List.length_map, filled_len zs k N (by omega) (by omega)]; exact hlt)
        unfold makV at hzk
        by_cases hs : (makT l n (k : Int)).isSome = true
        · obtain ⟨p, hp⟩ := Option.isSome_iff_exists.1 hs
          rw [hp] at hzk
          simp only [Option.getD_some] at hzk
          have HRW : Hid (((wr.setCell ⟨w2.heap.size, k, none⟩ (.int .i64 (-1))).setCell ⟨w2.heap.size, k, none⟩ (.int .i64 p)).ownsRow w2.heap.size 3 1 (.slice (some ⟨w2.heap.size, 0, none⟩) N N) N ((filled zs (k + 1) N).map (Value.int .i64))) := by
            have h := HST2.out p
            rw [List.set_set, ← List.map_set, ← hzk, HFS.out] at h
            rw [← hzk]; exact h
          clear d3 hst hst2 hO hB hbel1 e1 hs hzk HFS HST HST2
          go_wp2_with (at_lookup; refine wpList_lookU_ok rfl _ _ 55 rfl 3 .i64 HTT.out HTE.out (zeroI64 _) mb n (makT l n) rfl HMk.out (k : Int) (by first | rfl | simp [hwr]) (by omega) (by omega) ?_; rw [hp, Option.getD_some, Option.isSome_some])
          go_roundw
          case rel => exact ⟨k + 1, by omega, by go_num, HRW.out, (HBE.out.setCell (p := ⟨w2.heap.size, k, none⟩) (Nat.le_refl _) _).setCell (p := ⟨w2.heap.size, k, none⟩) (Nat.le_refl _) _⟩
          case measure => simp [intOf]; omega
        · have hn' : makT l n (k : Int) = none := by simpa using hs
          rw [hn'] at hzk
          simp only [Option.getD_none] at hzk
          have HRW : Hid ((wr.setCell ⟨w2.heap.size, k, none⟩ (.int .i64 (-1))).ownsRow w2.heap.size 3 1 (.slice (some ⟨w2.heap.size, 0, none⟩) N N) N ((filled zs (k + 1) N).map (Value.int .i64))) := by
            have h := HST.out
            rw [← List.map_set, ← hzk, HFS.out] at h
            rw [← hzk]; exact h
          clear d3 hst hst2 hO hB hbel1 e1 hs hzk HFS HST HST2
          go_wp2_with (at_lookup; refine wpList_lookU_ok rfl _ _ 55 rfl 3 .i64 HTT.out HTE.out (zeroI64 _) mb n (makT l n) rfl HMk.out (k : Int) (by first | rfl | simp [hwr]) (by omega) (by omega) ?_; rw [hn', Option.getD_none, Option.isSome_none])
          go_roundw
          case rel => exact ⟨k + 1, by omega, by go_num, HRW.out, HBE.out.setCell (p := ⟨w2.heap.size, k, none⟩) (Nat.le_refl _) _⟩
          case measure => simp [intOf]; omega
      · obtain rfl : k = N := by omega
        have hq := (hB.block (w.heap.size + 1) HS2.out).trans HQ2.out.2
        obtain ⟨d0, d1, dF⟩ := cell_of_two hq
        have f0 : wr.frozen? ⟨w.heap.size + 1, 0, none⟩ = false := by simp [World.frozen?, hq]
        rw [filled_whole zs k HZL.out] at hO
        have HK2 := hide (two_put2 hq (.int .i64 0) (.int .i64 0))
        have HVX := hide (View.ofOwn (ownsRow_setCell_below (ownsRow_setCell_below hO (a := ⟨w.heap.size + 1, 0, none⟩) (by simp; have := HS2.out; omega) (.int .i64 0)) (a := ⟨w.heap.size + 1, 1, none⟩) (by simp; have := HS2.out; omega) (.int .i64 0)) HZL.out)
        have hbw : Below w.heap.size w wr := HBX2.out.trans (hB.mono HBX2.out.size)
        have HBX3 := hide ((hbw.setCell (p := ⟨w.heap.size + 1, 0, none⟩) (by simp) (.int .i64 0)).setCell (p := ⟨w.heap.size + 1, 1, none⟩) (by simp) (.int .i64 0))
        clear hq hO hB hbw
        go_wp2_with fail
        generalize (wr.setCell ⟨w.heap.size + 1, 0, none⟩ (.int .i64 0)).setCell ⟨w.heap.size + 1, 1, none⟩ (.int .i64 0) = Y at *
        obtain ⟨r0, r1, _⟩ := cell_of_two HK2.out
        refine bodyPost_ret (v := .tuple #[.slice (some ⟨w2.heap.size, 0, none⟩) k k, .agg #[.int .i64 0, .int .i64 0]]) (by simp [results, Try.results9, go_sem, r0, r1]) rfl ?_
        exact ⟨_, k, k, by simp, HZL.out, HVX.out, HBX3.out⟩

  · rw [if_neg hE]
    generalize shapeE bnd l = E at *
    obtain ⟨E1, E2⟩ := E
    simp only at hE hSh
    have hE' : (E1 != 0) = true := by simpa using hE
    unfold modV at *
    clear hb0 hv hok hl k0 k1 hs1 hn hE
    go_enter Try.func9, Try.ntmps9
    go_wp2_with fail
    generalize (w.alloc (.cells #[.int .u32 gen, .int .u32 bnd, .slice a n c] 25)).alloc (.cells #[.int .i64 0, .int .i64 0] 29) = W0 at *
    refine hSh.mono ?_
    rintro e w1 ⟨rfl, hb1⟩
    have hba : Below w1.heap.size w1 (w1.alloc (.cells #[.int .i64 E1, .int .i64 E2] 29)) := (Below.refl _ w1).alloc (Nat.le_refl _) _
    have hbx := hb1.trans (hba.mono hb1.size)
    have q1 := (hbx.block _ (by rw [HZ.out]; omega)).trans HS1.out.2
    have HBX := hide (HB0.out.trans (hbx.mono HB0.out.size))
    have HW1 : Hid (w.heap.size + 2 ≤ w1.heap.size) := by show _ ≤ _; rw [← HZ.out]; exact hb1.size
    have HT := hide (heap_alloc_new w1 (.cells #[.int .i64 E1, .int .i64 E2] 29))
    have HQ := hide q1
    clear hSh hb1 hba hbx q1 HS1 HB0
    go_wp2_with fail
    generalize w1.alloc (.cells #[.int .i64 E1, .int .i64 E2] 29) = W1 at *
    generalize w1.heap.size = B at *
    obtain ⟨t0, t1, _⟩ := cell_of_two HT.out
    obtain ⟨d0, d1, dF⟩ := cell_of_two HQ.out
    have f0 : W1.frozen? ⟨w.heap.size + 1, 0, none⟩ = false := by simp [World.frozen?, HQ.out]
    have hne : B ≠ w.heap.size + 1 := by have := HW1.out; omega
    refine wp_norm ?_
    go_region
    all_goals
      rw [onNormal_normal]
      go_wp2_with fail
      have k2 := two_put2 HQ.out (.int .i64 E1) (.int .i64 E2)
      have hb2 := (HBX.out.setCell (p := ⟨w.heap.size + 1, 0, none⟩) (by simp) (.int .i64 E1)).setCell (p := ⟨w.heap.size + 1, 1, none⟩) (by simp) (.int .i64 E2)
      obtain ⟨r0, r1, _⟩ := cell_of_two k2
      refine bodyPost_ret (v := .tuple #[.slice none 0 0, .agg #[.int .i64 E1, .int .i64 E2]]) (by first | (simp [results, Try.results9, go_sem, r0, r1]; done) | (simp [results, Try.results9, go_sem, World.drew] at *; simp [r0, r1])) rfl ?_
      exact ⟨none, 0, 0, by simp, rfl, fun j hj => by simp at hj, by first | exact hb2 | exact hb2.drew⟩

end Go.Proofs.Ytmobologlaeefac

/-
  The document's Made.
-/
namespace Go.Proofs.Ytmobologlaeefac
open Go.RowKit Go.Maps
set_option linter.unusedVariables false
set_option linter.unusedSimpArgs false
set_option maxRecDepth 10000

set_option maxHeartbeats 8000000 in
theorem refMade9_any (gen bnd : Int) (a : Option Addr) (n c : Nat) (l : List InstT) (w : World) (hv : InstsV w a l) (hok : InstsOk l) (hl : l.length = n) (hn : 40 * n ≤ 140737488351232) (g0 : 0 ≤ gen) (g1 : gen < 4294967296) (b0 : 0 ≤ bnd) (b1 : bnd < 4294967296) :
    Calls Try.prog 8 #[modV gen bnd a n c] w fun e w' => UsesQ w w' (madeL bnd l) (shapeE bnd l) e := by
  obtain ⟨i0, hi, hz0, hz1, hz2⟩ := info_parts IntsU.info
  have HI : Hid (Try.prog.info? 3 = some i0 ∧ i0.zero = some (.int .i64 0) ∧ i0.size = 1 ∧ i0.bytes = 8) := ⟨hi, hz0, hz1, hz2⟩
  clear hi hz0 hz1 hz2
  have hb0 : Below w.heap.size w ((w.alloc (.cells #[.int .u32 gen, .int .u32 bnd, .slice a n c] 25)).alloc (.cells #[.int .i64 0, .int .i64 0] 29)) := ((Below.refl _ w).alloc (Nat.le_refl _) _).alloc (by simp) _
  have hSh := refShape4_any gen bnd a n c l _ (hv.below hb0) hok hl hn b0 b1
  have k0 : ((w.alloc (.cells #[.int .u32 gen, .int .u32 bnd, .slice a n c] 25)).alloc (.cells #[.int .i64 0, .int .i64 0] 29)).heap[w.heap.size]? = some (.cells #[.int .u32 gen, .int .u32 bnd, .slice a n c] 25 (0, 0)) := by rw [Below.heap_alloc _ _ _ (by simp)]; exact heap_alloc_new _ _
  have k1 : ((w.alloc (.cells #[.int .u32 gen, .int .u32 bnd, .slice a n c] 25)).alloc (.cells #[.int .i64 0, .int .i64 0] 29)).heap[w.heap.size + 1]? = some (.cells #[.int .i64 0, .int .i64 0] 29 (0, 0)) := by have := heap_alloc_new (w.alloc (.cells #[.int .u32 gen, .int .u32 bnd, .slice a n c] 25)) (.cells #[.int .i64 0, .int .i64 0] 29); simpa using this
  have HS1 := hide (And.intro k0 k1)
  have hs1 : ((w.alloc (.cells #[.int .u32 gen, .int .u32 bnd, .slice a n c] 25)).alloc (.cells #[.int .i64 0, .int .i64 0] 29)).heap.size = w.heap.size + 2 := by simp
  have HZ := hide hs1
  have HB0 := hide hb0
  have HV := hide hv
  have HOK := hide hok
  have HL := hide hl
  have HN : Hid (40 * n ≤ 140737488351232) := hn
  unfold madeL
  rcases shapeE_any bnd l with hE | hE
  · rw [if_pos (by rw [hE]), hE]
    have hbm := shape_maxU (b := bnd) (l := l) (by rw [hE])
    obtain ⟨N, rfl⟩ : ∃ N : Nat, bnd = (N : Int) := ⟨bnd.toNat, by omega⟩
    rw [show ((N : Int).toNat) = N from rfl]
    have hN1 : N ≤ 65536 := by omega
    have HZL := hide (madeZ_len l N)
    have HZA : Hid (∀ k, k < N → nth (madeZ l N) k = makV l n (k : Int)) := fun k hk => by rw [madeZ_at l N k hk, hl]
    generalize madeZ l N = zs at *
    rw [hE] at hSh
    unfold modV at *
    clear hE hb0 hv hok hl k0 k1 hs1 hn hbm
    go_enter Try.func8, Try.ntmps8
    go_wp2_with fail
    generalize (w.alloc (.cells #[.int .u32 gen, .int .u32 (N : Int), .slice a n c] 25)).alloc (.cells #[.int .i64 0, .int .i64 0] 29) = W0 at *
    refine hSh.mono ?_
    rintro e w1 ⟨rfl, hb1⟩
    have hba : Below w1.heap.size w1 (w1.alloc (.cells #[.int .i64 0, .int .i64 0] 29)) := (Below.refl _ w1).alloc (Nat.le_refl _) _
    have hbx := hb1.trans (hba.mono hb1.size)
    have q0 := (hbx.block _ (by rw [HZ.out]; omega)).trans HS1.out.1
    have q1 := (hbx.block _ (by rw [HZ.out]; omega)).trans HS1.out.2
    have HQ := hide (And.intro q0 q1)
    have HBX := hide (HB0.out.trans (hbx.mono HB0.out.size))
    have HW1 : Hid (w.heap.size + 2 ≤ w1.heap.size) := by show _ ≤ _; rw [← HZ.out]; exact hb1.size
    have HT := hide (heap_alloc_new w1 (.cells #[.int .i64 0, .int .i64 0] 29))
    clear hSh hb1 hba hbx q0 q1 HS1 HB0
    have m1 := (one_block HQ.out.1).1 1
    have HLS : Hid (w.heap.size + 1 < (w1.alloc (.cells #[.int .i64 0, .int .i64 0] 29)).heap.size) := (Array.getElem?_eq_some_iff.1 HQ.out.2).1
    have hcv : IntKind.i64.wrap (N : Int) = (N : Int) := by rw [IntKind.wrap_i64]; omega
    go_wp2_with (at_make; refine wpList_make_full _ rfl _ _ 26 rfl (w1.alloc (.cells #[.int .i64 0, .int .i64 0] 29)).heap.size 3 i0 (.int .i64 0) 1 Try.underlying26 HI.out.1 HI.out.2.1 HI.out.2.2.1 _ _ _ _ N rfl rfl (by omega) (by omega) (by rw [HI.out.2.2.2]; omega) (by unfold maxLen; omega) (Nat.le_refl _) ?_)
    intro w3 hown3 hgrow3
    have hb3 : Below (w1.alloc (.cells #[.int .i64 0, .int .i64 0] 29)).heap.size (w1.alloc (.cells #[.int .i64 0, .int .i64 0] 29)) w3 := (Below.refl _ _).grown hgrow3 (Nat.le_refl _) (by simp)
    have HR3 := hide (made_row zs hown3)
    have HB3 := hide hb3
    have HGE : Hid (w1.heap.size + 1 = (w1.alloc (.cells #[.int .i64 0, .int .i64 0] 29)).heap.size) := by show _ = _; simp
    clear hown3 hgrow3 hb3 m1 hcv
    go_wp2_with fail
    have hge := HGE.out
    try rw [hge]
    generalize w1.alloc (.cells #[.int .i64 0, .int .i64 0] 29) = W1 at *
    clear hge
    go_loopw [6] (fun i wr => ∃ k : Nat, k ≤ N ∧ i = .int .i64 k ∧ wr.ownsRow W1.heap.size 3 1 (.slice (some ⟨W1.heap.size, 0, none⟩) N N) N ((filled zs k N).map (Value.int .i64)) ∧ Below W1.heap.size W1 wr) (fun i _ => N - (intOf i).toNat)
    case atStart => exact ⟨0, Nat.zero_le _, rfl, by have h := HR3.out; first | exact h | (rw [HGE.out] at h; exact h), by first | exact HB3.out | (have h := HB3.out; rw [HGE.out] at h; exact h)⟩
    case round =>
      obtain ⟨k, hk, rfl, hO, hB⟩ := hrel
      clear HR3 HB3
      by_cases hlt : k < N
      · have hki : (k : Int) < (N : Int) := by omega
        have hk0 : (0 : Int) ≤ (k : Int) := by omega
        have hwr : IntKind.u32.wrap (k : Int) = (k : Int) := by rw [IntKind.wrap_u32]; omega
        have hzl : k < zs.length := by rw [HZL.out]; exact hlt
        obtain ⟨d1, d2, d3⟩ := fill_step hO hlt hzl
        have hMk := refMaker_any a n c l (k : Int) n wr ((HV.out.below HBX.out).below hB) HL.out (by have := HN.out; omega) (Nat.le_refl _)
        rw [← HZA.out k hlt] at hMk
        have q2 := (one_block ((hB.block w.heap.size (Nat.lt_of_succ_lt HLS.out)).trans HQ.out.1)).1 2
        have HD3 := hide d3
        have HBE := hide hB
        generalize nth zs k = v at *
        clear d3 hO hB
        go_wp2_with fail
        refine hMk.mono ?_
        rintro e w5 ⟨rfl, rfl⟩
        clear hMk
        go_wp2_with fail
        go_roundw
        case rel => exact ⟨k + 1, by omega, by go_num, HD3.out, HBE.out.setCell (p := ⟨W1.heap.size, k, none⟩) (Nat.le_refl _) _⟩
        case measure => simp [intOf]; omega
      · obtain rfl : k = N := by omega
        have hq := (hB.block (w.heap.size + 1) HLS.out).trans HQ.out.2
        obtain ⟨d0, d1, dF⟩ := cell_of_two hq
        have f0 : wr.frozen? ⟨w.heap.size + 1, 0, none⟩ = false := by simp [World.frozen?, hq]
        rw [filled_whole zs k HZL.out] at hO
        have HK2 := hide (two_put2 hq (.int .i64 0) (.int .i64 0))
        have HVX := hide (View.ofOwn (ownsRow_setCell_below (ownsRow_setCell_below hO (a := ⟨w.heap.size + 1, 0, none⟩) (by simp; have := HLS.out; omega) (.int .i64 0)) (a := ⟨w.heap.size + 1, 1, none⟩) (by simp; have := HLS.out; omega) (.int .i64 0)) HZL.out)
        have hbw : Below w.heap.size w wr := HBX.out.trans (hB.mono HBX.out.size)
        have HBX3 := hide ((hbw.setCell (p := ⟨w.heap.size + 1, 0, none⟩) (by simp) (.int .i64 0)).setCell (p := ⟨w.heap.size + 1, 1, none⟩) (by simp) (.int .i64 0))
        have hlT : w1.heap.size < W1.heap.size := (Array.getElem?_eq_some_iff.1 HT.out).1
        obtain ⟨t0, t1, _⟩ := cell_of_two ((hB.block w1.heap.size hlT).trans HT.out)
        have hne : w1.heap.size ≠ w.heap.size + 1 := by have := HW1.out; omega
        clear hq hO hB hbw
        go_wp2_with fail
        refine wp_norm ?_
        go_region
        all_goals
          rw [onNormal_normal]
          go_wp2_with fail
          obtain ⟨r0, r1, _⟩ := cell_of_two HK2.out
          refine bodyPost_ret (v := .tuple #[.slice (some ⟨W1.heap.size, 0, none⟩) k k, .agg #[.int .i64 0, .int .i64 0]]) (by first | (simp [results, Try.results8, go_sem, r0, r1]; done) | (simp [results, Try.results8, go_sem, World.drew] at *; simp [r0, r1])) rfl ?_
          exact ⟨some ⟨W1.heap.size, 0, none⟩, k, k, by simp, HZL.out, by first | exact HVX.out | exact HVX.out.below (below_drew _), by first | exact HBX3.out | exact HBX3.out.drew⟩
  · rw [if_neg hE]
    generalize shapeE bnd l = E at *
    obtain ⟨E1, E2⟩ := E
    simp only at hE hSh
    have hE' : (E1 != 0) = true := by simpa using hE
    unfold modV at *
    clear hb0 hv hok hl k0 k1 hs1 hn hE
    go_enter Try.func8, Try.ntmps8
    go_wp2_with fail
    generalize (w.alloc (.cells #[.int .u32 gen, .int .u32 bnd, .slice a n c] 25)).alloc (.cells #[.int .i64 0, .int .i64 0] 29) = W0 at *
    refine hSh.mono ?_
    rintro e w1 ⟨rfl, hb1⟩
    have hba : Below w1.heap.size w1 (w1.alloc (.cells #[.int .i64 E1, .int .i64 E2] 29)) := (Below.refl _ w1).alloc (Nat.le_refl _) _
    have hbx := hb1.trans (hba.mono hb1.size)
    have q1 := (hbx.block _ (by rw [HZ.out]; omega)).trans HS1.out.2
    have HBX := hide (HB0.out.trans (hbx.mono HB0.out.size))
    have HW1 : Hid (w.heap.size + 2 ≤ w1.heap.size) := by show _ ≤ _; rw [← HZ.out]; exact hb1.size
    have HT := hide (heap_alloc_new w1 (.cells #[.int .i64 E1, .int .i64 E2] 29))
    have HQ := hide q1
    clear hSh hb1 hba hbx q1 HS1 HB0
    go_wp2_with fail
    generalize w1.alloc (.cells #[.int .i64 E1, .int .i64 E2] 29) = W1 at *
    generalize w1.heap.size = B at *
    obtain ⟨t0, t1, _⟩ := cell_of_two HT.out
    obtain ⟨d0, d1, dF⟩ := cell_of_two HQ.out
    have f0 : W1.frozen? ⟨w.heap.size + 1, 0, none⟩ = false := by simp [World.frozen?, HQ.out]
    have hne : B ≠ w.heap.size + 1 := by have := HW1.out; omega
    refine wp_norm ?_
    go_region
    all_goals
      rw [onNormal_normal]
      go_wp2_with fail
      have k2 := two_put2 HQ.out (.int .i64 E1) (.int .i64 E2)
      have hb2 := (HBX.out.setCell (p := ⟨w.heap.size + 1, 0, none⟩) (by simp) (.int .i64 E1)).setCell (p := ⟨w.heap.size + 1, 1, none⟩) (by simp) (.int .i64 E2)
      obtain ⟨r0, r1, _⟩ := cell_of_two k2
      refine bodyPost_ret (v := .tuple #[.slice none 0 0, .agg #[.int .i64 E1, .int .i64 E2]]) (by first | (simp [results, Try.results8, go_sem, r0, r1]; done) | (simp [results, Try.results8, go_sem, World.drew] at *; simp [r0, r1])) rfl ?_
      exact ⟨none, 0, 0, by simp, rfl, fun j hj => by simp at hj, by first | exact hb2 | exact hb2.drew⟩

end Go.Proofs.Ytmobologlaeefac

/-
  CopyInst of the kit answers the instruction in new memory.
-/
namespace Go.Proofs.Ytmobologlaeefac
open Go.RowKit

theorem CopyInst.info : (Try.prog.info? 63).map (fun i => (i.zero, i.size, i.bytes)) = some (some (.agg #[.int .u8 0, .int .u32 0, .string ⟨#[]⟩]), 3, 24) := by kernel_rfl

/-- The first k arguments lie in the row at g. -/
structure PartA (w : World) (g n k : Nat) (l : List ArgT) : Prop where
  row : ∃ cs : Array Value, w.heap[g]? = some (.cells cs 63 (0, 0)) ∧ cs.size = n * 3
  each : ∀ j, j < k → w.cell? ⟨g, j * 3, none⟩ = some (.int .u8 (nthA l j).1) ∧ w.cell? ⟨g, j * 3 + 1, none⟩ = some (.int .u32 (nthA l j).2.1) ∧ w.cell? ⟨g, j * 3 + 2, none⟩ = some (.string (nthA l j).2.2)

theorem cells_can {w : World} {g T : Nat} {cs : Array Value} (h : w.heap[g]? = some (.cells cs T (0, 0))) (j : Nat) (hj : j < cs.size) : (∃ v, w.cell? ⟨g, j, none⟩ = some v) ∧ w.frozen? ⟨g, j, none⟩ = false := by
  refine ⟨⟨cs[j], by simp [World.cell?, h, hj]⟩, by simp [World.frozen?, h]⟩

theorem PartA.store {w : World} {g n k : Nat} {l : List ArgT} (h : PartA w g n k l) (hk : k < n) :
    PartA (((w.setCell ⟨g, k * 3, none⟩ (.int .u8 (nthA l k).1)).setCell ⟨g, k * 3 + 1, none⟩ (.int .u32 (nthA l k).2.1)).setCell ⟨g, k * 3 + 2, none⟩ (.string (nthA l k).2.2)) g n (k + 1) l := by
  obtain ⟨⟨cs, h1, h2⟩, h3⟩ := h
  obtain ⟨W, hW⟩ : ∃ W, W = ((w.setCell ⟨g, k * 3, none⟩ (.int .u8 (nthA l k).1)).setCell ⟨g, k * 3 + 1, none⟩ (.int .u32 (nthA l k).2.1)).setCell ⟨g, k * 3 + 2, none⟩ (.string (nthA l k).2.2) := ⟨_, rfl⟩
  have hb : W.heap[g]? = some (.cells (((cs.setIfInBounds (k * 3) (.int .u8 (nthA l k).1)).setIfInBounds (k * 3 + 1) (.int .u32 (nthA l k).2.1)).setIfInBounds (k * 3 + 2) (.string (nthA l k).2.2)) 63 (0, 0)) := by
    rw [hW]; simp [World.setCell, Array.getElem?_modify, h1]
  have cell : ∀ j, W.cell? ⟨g, j, none⟩ = (((cs.setIfInBounds (k * 3) (.int .u8 (nthA l k).1)).setIfInBounds (k * 3 + 1) (.int .u32 (nthA l k).2.1)).setIfInBounds (k * 3 + 2) (.string (nthA l k).2.2))[j]? := fun j => by
    simp [World.cell?, hb]
  have old : ∀ j, w.cell? ⟨g, j, none⟩ = cs[j]? := fun j => by simp [World.cell?, h1]
  rw [← hW]
  refine ⟨⟨_, hb, by simp [h2]⟩, fun j hj => ?_⟩
  by_cases hjk : j < k
  · obtain ⟨c1, c2, c3⟩ := h3 j hjk
    rw [old] at c1 c2 c3
    refine ⟨?_, ?_, ?_⟩
    all_goals rw [cell, Array.getElem?_setIfInBounds_ne (by omega), Array.getElem?_setIfInBounds_ne (by omega), Array.getElem?_setIfInBounds_ne (by omega)]
    · exact c1
    · exact c2
    · exact c3
  · obtain rfl : j = k := by omega
    refine ⟨?_, ?_, ?_⟩
    · rw [cell, Array.getElem?_setIfInBounds_ne (by omega), Array.getElem?_setIfInBounds_ne (by omega), Array.getElem?_setIfInBounds_self_of_lt (by omega)]
    · rw [cell, Array.getElem?_setIfInBounds_ne (by omega), Array.getElem?_setIfInBounds_self_of_lt (by simp; omega)]
    · rw [cell, Array.getElem?_setIfInBounds_self_of_lt (by simp; omega)]

theorem PartA.view {w : World} {g n : Nat} {l : List ArgT} (h : PartA w g n n l) (hl : l.length = n) : ArgsV w (some ⟨g, 0, none⟩) l := by
  intro j hj
  obtain ⟨c1, c2, c3⟩ := h.each j (by omega)
  exact ⟨g, 0, rfl, World.block_lt_of_cell? _ _ c1, by rw [Nat.zero_add]; exact c1, by rw [Nat.zero_add]; exact c2, by rw [Nat.zero_add]; exact c3⟩

theorem PartA.drew {w : World} {g n k : Nat} {l : List ArgT} (h : PartA w g n k l) (q : Nat) : PartA (w.drewN q) g n k l := ⟨h.row, h.each⟩

theorem setFar1 {w : World} {g k : Nat} {o : Obj} (h : w.heap[k]? = some o) (hne : k ≠ g) (i : Nat) (u : Value) : (w.setCell ⟨g, i, none⟩ u).heap[k]? = some o := (Below.heap_setCell _ _ _ _ (by simpa using hne)).trans h
theorem setFar3 {w : World} {g k : Nat} {o : Obj} (h : w.heap[k]? = some o) (hne : k ≠ g) (i j m : Nat) (u v x : Value) : (((w.setCell ⟨g, i, none⟩ u).setCell ⟨g, j, none⟩ v).setCell ⟨g, m, none⟩ x).heap[k]? = some o := setFar1 (setFar1 (setFar1 h hne i u) hne j v) hne m x
theorem block_cells {w : World} {B T : Nat} {cs : Array Value} (h : w.heap[B]? = some (.cells cs T (0, 0))) : (∀ i, w.cell? ⟨B, i, none⟩ = cs[i]?) ∧ (∀ i, w.frozen? ⟨B, i, none⟩ = false) := by
  refine ⟨fun i => ?_, fun i => ?_⟩
  · simp [World.cell?, h]
  · simp [World.frozen?, h]

theorem four_set {w : World} {B T : Nat} {z0 z1 z2 z3 : Value} (h : w.heap[B]? = some (.cells #[z0, z1, z2, z3] T (0, 0))) (u0 u1 u2 u3 : Value) :
    ((((w.setCell ⟨B, 0, none⟩ u0).setCell ⟨B, 1, none⟩ u1).setCell ⟨B, 2, none⟩ u2).setCell ⟨B, 3, none⟩ u3).heap[B]? = some (.cells #[u0, u1, u2, u3] T (0, 0)) := by
  simp only [World.setCell, Array.getElem?_modify, h]; simp
theorem four_below (w : World) (B : Nat) (u0 u1 u2 u3 : Value) : Below B w ((((w.setCell ⟨B, 0, none⟩ u0).setCell ⟨B, 1, none⟩ u1).setCell ⟨B, 2, none⟩ u2).setCell ⟨B, 3, none⟩ u3) :=
  ((((Below.refl B w).setCell (Nat.le_refl _) _).setCell (Nat.le_refl _) _).setCell (Nat.le_refl _) _).setCell (Nat.le_refl _) _
theorem args_far {w : World} {b off g : Nat} {l : List ArgT} (h : ArgsV w (some ⟨b, off, none⟩) l) (hg : g ≠ b) (i : Nat) (v : Value) : ArgsV (w.setCell ⟨g, i, none⟩ v) (some ⟨b, off, none⟩) l :=
  h.setCell (fun b' off' e => by cases e; exact fun h => hg h.symm) v

set_option maxRecDepth 100000 in
set_option maxHeartbeats 2000000 in
theorem copyInst_any (x : InstT) (ax : Option Addr) (n cx : Nat) (w : World) (hx : ArgsV w ax x.2.2.2) (hl : x.2.2.2.length = n) (hn : 24 * n ≤ 140737488351232) :
    Calls Try.prog 31 #[instV x ax n cx] w fun e w' => ∃ g, e = .returned (instV x (some ⟨g, 0, none⟩) n n) ∧ w.heap.size ≤ g ∧ ArgsV w' (some ⟨g, 0, none⟩) x.2.2.2 ∧ Below w.heap.size w w' := by
  obtain ⟨i0, hi, hz0, hz1, hz2⟩ := info_parts CopyInst.info
  obtain ⟨xo, xt, xr, xl⟩ := x
  unfold instV
  simp only at *
  have HL : Hid (xl.length = n) := hl
  clear hl
  go_enter Try.func31, Try.ntmps31
  go_wp2_with (at_make; refine wpList_make_full _ rfl _ _ 49 rfl (w.heap.size + 1) 63 i0 (.agg #[.int .u8 0, .int .u32 0, .string ⟨#[]⟩]) 3 Try.underlying49 hi hz0 hz1 _ _ _ _ n rfl rfl (by omega) (by omega) (by rw [hz2]; omega) (by unfold maxLen; omega) (by simp) ?_)
  intro w1 hown1 hgrow1
  have hb0 : Below w.heap.size w ((w.alloc (.cells #[.int .u16 xo, .int .u32 xt, .int .u32 xr, .slice ax n cx] 51)).alloc (.cells #[.int .u16 0, .int .u32 0, .int .u32 0, .slice none 0 0] 51)) := ((Below.refl _ w).alloc (Nat.le_refl _) _).alloc (by simp) _
  have hb1 : Below (w.heap.size + 2) ((w.alloc (.cells #[.int .u16 xo, .int .u32 xt, .int .u32 xr, .slice ax n cx] 51)).alloc (.cells #[.int .u16 0, .int .u32 0, .int .u32 0, .slice none 0 0] 51)) w1 := (Below.refl _ _).grown hgrow1 (by simp) (by simp)
  have hbox : w1.heap[w.heap.size]? = some (.cells #[.int .u16 xo, .int .u32 xt, .int .u32 xr, .slice ax n cx] 51 (0, 0)) := (hb1.block w.heap.size (by omega)).trans ((Below.heap_alloc _ _ _ (by simp)).trans (heap_alloc_new w _))
  have hres : w1.heap[w.heap.size + 1]? = some (.cells #[.int .u16 0, .int .u32 0, .int .u32 0, .slice none 0 0] 51 (0, 0)) := (hb1.block (w.heap.size + 1) (by omega)).trans (by simpa using heap_alloc_new (w.alloc (.cells #[.int .u16 xo, .int .u32 xt, .int .u32 xr, .slice ax n cx] 51)) (.cells #[.int .u16 0, .int .u32 0, .int .u32 0, .slice none 0 0] 51))
  have hP1 : PartA w1 (w.heap.size + 2) n 0 xl := by
    refine ⟨?_, fun j hj => by omega⟩
    rcases hown1.2 with ⟨h, _⟩ | ⟨g, cap', cur, h1, h2, h3, h4, h5, h6, _⟩
    · simp at h
    · simp at h1; obtain ⟨rfl, rfl⟩ := h1; exact ⟨cur, h3, h6⟩
  have hbw1 : Below w.heap.size w w1 := hb0.trans (hb1.mono (by omega))
  clear hown1 hgrow1 hb0 hb1
  go_wp2
  go_loopw [4] (fun i wr => ∃ k : Nat, k ≤ n ∧ i = .int .i64 k ∧ PartA wr (w.heap.size + 2) n k xl ∧ wr.heap[w.heap.size]? = some (.cells #[.int .u16 xo, .int .u32 xt, .int .u32 xr, .slice ax n cx] 51 (0, 0)) ∧ wr.heap[w.heap.size + 1]? = some (.cells #[.int .u16 0, .int .u32 0, .int .u32 0, .slice none 0 0] 51 (0, 0)) ∧ Below w.heap.size w wr) (fun i _ => n - (intOf i).toNat)
  case atStart => exact ⟨0, Nat.zero_le _, rfl, hP1, hbox, hres, hbw1⟩
  case round =>
    obtain ⟨k, hk, rfl, hP, hbx, hrs, hnx⟩ := hrel
    clear hP1 hbw1 hbox hres
    have hbc : wr.cell? ⟨w.heap.size, 3, none⟩ = some (.slice ax n cx) := by simp [World.cell?, hbx]
    have hsz := hnx.size
    by_cases hlt : k < n
    · obtain ⟨b, off, rfl, hbs, p1, p2, p3⟩ := hx k (by rw [HL.out]; exact hlt)
      have q1 := (hnx.cell (p := ⟨b, off + k * 3, none⟩) hbs).trans p1
      have q2 := (hnx.cell (p := ⟨b, off + k * 3 + 1, none⟩) hbs).trans p2
      have q3 := (hnx.cell (p := ⟨b, off + k * 3 + 2, none⟩) hbs).trans p3
      obtain ⟨cs, hr1, hr2⟩ := hP.row
      obtain ⟨⟨u0, d0⟩, f0⟩ := cells_can hr1 (k * 3) (by omega)
      obtain ⟨⟨u1, d1⟩, f1⟩ := cells_can hr1 (k * 3 + 1) (by omega)
      obtain ⟨⟨u2, d2⟩, f2⟩ := cells_can hr1 (k * 3 + 2) (by omega)
      have hki : (k : Int) < (n : Int) := by omega
      have hk0 : (0 : Int) ≤ (k : Int) := by omega
      have hP2 := hP.store hlt
      have HX : Hid (wr.heap[w.heap.size]? = some (.cells #[.int .u16 xo, .int .u32 xt, .int .u32 xr, .slice (some ⟨b, off, none⟩) n cx] 51 (0, 0))) := hbx
      have HP2 : Hid _ := hP2
      have HR : Hid _ := hrs
      clear hP2 hP hr1 hr2 p1 p2 p3 hx hbx hrs
      go_wp2
      go_roundw
      case rel => exact ⟨k + 1, by omega, by go_num, HP2.out, setFar3 HX.out (by omega) _ _ _ _ _ _, setFar3 HR.out (by omega) _ _ _ _ _ _, ((hnx.setCell (by show w.heap.size ≤ w.heap.size + 1 + 1; omega) _).setCell (by show w.heap.size ≤ w.heap.size + 1 + 1; omega) _).setCell (by show w.heap.size ≤ w.heap.size + 1 + 1; omega) _⟩
      case measure => simp [intOf]; omega
    · obtain rfl : k = n := by omega
      obtain ⟨hc, hf⟩ := block_cells hbx
      obtain ⟨hc', hf'⟩ := block_cells hrs
      have c0 := hc 0
      have c1 := hc 1
      have c2 := hc 2
      have r0 := hc' 0
      have r1 := hc' 1
      have r2 := hc' 2
      have r3 := hc' 3
      have hV := hP.view HL.out
      have HV : Hid _ := hV
      have HB : Hid _ := hnx
      have HX : Hid _ := hbx
      have HR : Hid _ := hrs
      clear hP hbx hrs hc hc' hx hV hnx
      go_wp2
      have hB4 := four_set (setFar1 HR.out (show w.heap.size + 1 ≠ w.heap.size by omega) 3 (.slice (some ⟨w.heap.size + 1 + 1, 0, none⟩) k k)) (.int .u16 xo) (.int .u32 xt) (.int .u32 xr) (.slice (some ⟨w.heap.size + 1 + 1, 0, none⟩) k k)
      have hBel := (HB.out.setCell (p := ⟨w.heap.size, 3, none⟩) (Nat.le_refl _) (.slice (some ⟨w.heap.size + 1 + 1, 0, none⟩) k k)).trans ((four_below (wr.setCell ⟨w.heap.size, 3, none⟩ (.slice (some ⟨w.heap.size + 1 + 1, 0, none⟩) k k)) (w.heap.size + 1) (.int .u16 xo) (.int .u32 xt) (.int .u32 xr) (.slice (some ⟨w.heap.size + 1 + 1, 0, none⟩) k k)).mono (show w.heap.size ≤ w.heap.size + 1 by omega))
      have hV2 := args_far HV.out (show w.heap.size ≠ w.heap.size + 2 by omega) 3 (.slice (some ⟨w.heap.size + 1 + 1, 0, none⟩) k k)
      have hV3 := args_far (args_far (args_far (args_far hV2 (show w.heap.size + 1 ≠ w.heap.size + 2 by omega) 0 (.int .u16 xo)) (show w.heap.size + 1 ≠ w.heap.size + 2 by omega) 1 (.int .u32 xt)) (show w.heap.size + 1 ≠ w.heap.size + 2 by omega) 2 (.int .u32 xr)) (show w.heap.size + 1 ≠ w.heap.size + 2 by omega) 3 (.slice (some ⟨w.heap.size + 1 + 1, 0, none⟩) k k)
      clear hV2 HV HB HR HX c0 c1 c2 r0 r1 r2 r3 hf hf'
      generalize ((((wr.setCell _ _).setCell _ _).setCell _ _).setCell _ _).setCell _ _ = W at hB4 hBel hV3 ⊢
      obtain ⟨hd, _⟩ := block_cells hB4
      have d0 := hd 0
      have d1 := hd 1
      have d2 := hd 2
      have d3 := hd 3
      refine bodyPost_ret (v := .agg #[.int .u16 xo, .int .u32 xt, .int .u32 xr, .slice (some ⟨w.heap.size + 1 + 1, 0, none⟩) k k]) ?_ rfl ⟨w.heap.size + 1 + 1, rfl, by omega, hV3, hBel⟩
      simp [results, Try.results31, go_sem, d0, d1, d2, d3]

end Go.Proofs.Ytmobologlaeefac
