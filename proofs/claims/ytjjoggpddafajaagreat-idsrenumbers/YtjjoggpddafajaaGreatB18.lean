/-
  Texts laid together in one: MapU, IdsMakers, MathIc, LayoutParts.
-/
import Derived.WalkSpells
import Derived.WalkMore
import Derived.Maps.OwnSet
import Derived.Test.YtjjoggpddafajaaGreatProg
import Derived.Test.YtjjoggpddafajaaGreatB01
import Derived.Test.YtjjoggpddafajaaGreatB07
import Derived.BigRegion
import Derived.Test.YtjjoggpddafajaaGreatB11
import Derived.Test.YtjjoggpddafajaaGreatB16
import Derived.Deep.RegionWith
import Derived.Deep.MidRow
import Derived.Test.YtjjoggpddafajaaGreatB17
/-
  A map by words, with numbers in it, as a function of its keys.
-/
namespace Go.Proofs.YtjjoggpddafajaaGreat
open Go.RowKit Go.Maps
set_option linter.unusedVariables false
set_option linter.unusedSimpArgs false
set_option maxRecDepth 10000

theorem keyU : Keyed Tryz.prog 22 := int_keyed Tryz.underlying22
theorem keyU_of {x : Int} (h0 : 0 ≤ x) (h1 : x < 4294967296) : keyOf Tryz.prog 22 (.int .u32 x) = some (.int .u32 x) := keyOf_int_mk Tryz.underlying22 (by simp [Lit.wf, show IntKind.u32.min = 0 from rfl, show IntKind.u32.max = 4294967295 from rfl]; omega)

/-- Block b is a map of at most n entries: at the key x stands f x. -/
def MapU (w : World) (E : TypeId) (q : IntKind) (b n : Nat) (f : Int → Option Int) : Prop :=
  ∃ D : DataW Unit, w.ownsMap Tryz.prog 22 (plainElem Tryz.prog E) b n D ∧ (∀ x, Maps.has D (.int .u32 x) = (f x).isSome) ∧ ∀ x, D.atKey (.int .u32 x) (.lit (.int q 0)) = .lit (.int q ((f x).getD 0))
theorem MapU.made (w : World) (E : TypeId) (q : IntKind) : MapU (w.alloc (.map #[] 0)) E q w.heap.size 0 (fun _ => none) :=
  ⟨.map [], World.ownsMap_made _ _ _ _, fun x => rfl, fun x => rfl⟩
theorem MapU.lt {w : World} {E : TypeId} {q : IntKind} {b n : Nat} {f : Int → Option Int} (h : MapU w E q b n f) : b < w.heap.size := by obtain ⟨D, h1, _⟩ := h; exact h1.lt
theorem MapU.below {w w' : World} {E : TypeId} {q : IntKind} {b n : Nat} {f : Int → Option Int} (h : MapU w E q b n f) (hb : Below w.heap.size w w') : MapU w' E q b n f := by
  have hl := h.lt
  obtain ⟨D, ⟨es, ck, h1, h2⟩, h3⟩ := h
  exact ⟨D, ⟨es, ck, (hb.block b hl).trans h1, h2⟩, h3⟩
theorem MapU.block {w w' : World} {E : TypeId} {q : IntKind} {b n : Nat} {f : Int → Option Int} (h : MapU w E q b n f) (hb : w'.heap[b]? = w.heap[b]?) : MapU w' E q b n f := by
  obtain ⟨D, ⟨es, ck, h1, h2⟩, h3⟩ := h
  exact ⟨D, ⟨es, ck, hb.trans h1, h2⟩, h3⟩
theorem MapU.mono {w : World} {E : TypeId} {q : IntKind} {b n n' : Nat} {f : Int → Option Int} (h : MapU w E q b n f) (hn : n ≤ n') : MapU w E q b n' f := by
  obtain ⟨D, h1, h2⟩ := h
  exact ⟨D, h1.mono hn, h2⟩
theorem MapU.congr {w : World} {E : TypeId} {q : IntKind} {b n : Nat} {f g : Int → Option Int} (h : MapU w E q b n f) (e : ∀ x, f x = g x) : MapU w E q b n g := by
  have : f = g := funext e
  rw [← this]; exact h
theorem MapU.put {w' : World} {E : TypeId} {q : IntKind} {b n' : Nat} {f : Int → Option Int} {D : DataW Unit} {x v : Int} (hD : IsMap D) (h1 : ∀ x, Maps.has D (.int .u32 x) = (f x).isSome) (h2 : ∀ x, D.atKey (.int .u32 x) (.lit (.int q 0)) = .lit (.int q ((f x).getD 0)))
    (h : w'.ownsMap Tryz.prog 22 (plainElem Tryz.prog E) b n' (D.put (.int .u32 x) (.lit (.int q v)))) : MapU w' E q b n' (fun y => if y = x then some v else f y) := by
  refine ⟨_, h, fun y => ?_, fun y => ?_⟩
  · show _ = (if y = x then some v else f y).isSome
    by_cases e : y = x
    · subst e; rw [if_pos rfl]; exact has_put_same (k := .int .u32 y) hD (by simp [WideAt.IsKeyLit]) _
    · rw [if_neg e, ← h1 y]; exact has_put_other (by simpa using e) _
  · show _ = DataW.lit (.int q ((if y = x then some v else f y).getD 0))
    by_cases e : y = x
    · subst e; rw [if_pos rfl]; exact atKey_put_same (k := .int .u32 y) hD (by simp [WideAt.IsKeyLit]) _ _
    · rw [if_neg e, ← h2 y]; exact atKey_put_other (by simpa using e) _ _

section
variable {w : World} {ops : Array Oper} {rest : List Oper} {o : Oper} {a : Act} {Q : Exit → Act → World → Prop}
/-- 'v, ok := m[x]'. -/
theorem wpList_lookU_ok (hg : o.guard = none) (m x : Operand) (t : TypeId) (hop : o.op = Op.lookup t m x true) (E : TypeId) (q : IntKind) (ht : Tryz.prog.underlying t = some (.map 22 E)) (he : Tryz.prog.underlying E = some (.int q)) (hz : (zeroValue E).run Tryz.prog w = .ok (.int q 0) w)
    (b n : Nat) (f : Int → Option Int) (hm : a.eval m = .map (some b)) (h : MapU w E q b n f) (key : Int) (hx : a.eval x = .int .u32 key) (k0 : 0 ≤ key) (k1 : key < 4294967296)
    (hK : wpList Tryz.prog ops Q rest (a.put o.dst (.tuple #[.int q ((f key).getD 0), .bool (f key).isSome])) w) : wpList Tryz.prog ops Q (o :: rest) a w := by
  obtain ⟨D, h1, h2, h3⟩ := h
  refine wpList_lookup_own_ok_int w hg m x t hop 22 E q keyU ht he hz b n D hm h1 _ _ hx (keyU_of k0 k1) ?_
  intro c hat _
  rw [h3] at hat
  simp only [DataW.lit.injEq, Lit.int.injEq, true_and] at hat
  rw [← hat, h2]
  exact hK
/-- 'v := m[x]'. -/
theorem wpList_lookU (hg : o.guard = none) (m x : Operand) (t : TypeId) (hop : o.op = Op.lookup t m x false) (E : TypeId) (q : IntKind) (ht : Tryz.prog.underlying t = some (.map 22 E)) (he : Tryz.prog.underlying E = some (.int q)) (hz : (zeroValue E).run Tryz.prog w = .ok (.int q 0) w)
    (b n : Nat) (f : Int → Option Int) (hm : a.eval m = .map (some b)) (h : MapU w E q b n f) (key : Int) (hx : a.eval x = .int .u32 key) (k0 : 0 ≤ key) (k1 : key < 4294967296)
    (hK : wpList Tryz.prog ops Q rest (a.put o.dst (.int q ((f key).getD 0))) w) : wpList Tryz.prog ops Q (o :: rest) a w := by
  obtain ⟨D, h1, h2, h3⟩ := h
  refine wpList_lookup_own_int w hg m x t hop 22 E q keyU ht he hz b n D hm h1 _ _ hx (keyU_of k0 k1) ?_
  intro c hat _
  rw [h3] at hat
  simp only [DataW.lit.injEq, Lit.int.injEq, true_and] at hat
  rw [← hat]
  exact hK
/-- 'm[x] = v'. -/
theorem wpList_putU (hg : o.guard = none) (m x v : Operand) (t : TypeId) (hop : o.op = Op.mapUpdate t m x v) (E : TypeId) (q : IntKind) (ht : Tryz.prog.underlying t = some (.map 22 E)) (he : Tryz.prog.underlying E = some (.int q))
    (b n : Nat) (f : Int → Option Int) (hm : a.eval m = .map (some b)) (h : MapU w E q b n f) (hn : n < maxLen) (key val : Int) (hx : a.eval x = .int .u32 key) (k0 : 0 ≤ key) (k1 : key < 4294967296) (hv : a.eval v = .int q val) (hw : (Lit.int q val).wf = true)
    (hK : ∀ w', MapU w' E q b (n + 1) (fun y => if y = key then some val else f y) → w.grownBy w' (some b) → wpList Tryz.prog ops Q rest (a.put o.dst undef) w') : wpList Tryz.prog ops Q (o :: rest) a w := by
  obtain ⟨D, h1, h2, h3⟩ := h
  refine wpList_mapUpdate_own w hg m x v t hop 22 E keyU ht _ b n D hm h1 hn _ _ _ hx hv (keyU_of k0 k1) _ [] (plainElem_int he hw) ?_
  intro w' h4 h5
  exact hK w' (MapU.put h1.isMap h2 h3 h4) h5
end

end Go.Proofs.YtjjoggpddafajaaGreat

/-
  makersOf of the package ids: a map from each id that is made to the least place at which it is made; the document's Maker.
-/
namespace Go.Proofs.YtjjoggpddafajaaGreat
open Go.RowKit Go.Maps
set_option linter.unusedVariables false
set_option linter.unusedSimpArgs false
set_option maxRecDepth 10000

/-- The least place below k at which an id is made. -/
def makT (l : List InstT) : Nat → Int → Option Int
  | 0, _ => none
  | k + 1, id => if (makT l k id).isSome = true then makT l k id else if (nthI l k).2.2.1 = id ∧ id ≠ 0 then some (k : Int) else none
def makV (l : List InstT) (k : Nat) (id : Int) : Int := (makT l k id).getD (-1)
theorem makT_some (l : List InstT) (id : Int) : ∀ k p, makT l k id = some p → 0 ≤ p ∧ p < (k : Int)
  | 0, p, h => by cases h
  | k + 1, p, h => by
    rw [makT] at h
    split at h
    · have := makT_some l id k p h; omega
    · split at h
      · cases h; omega
      · cases h
theorem makT_stays (l : List InstT) (id : Int) (k : Nat) (h : (makT l k id).isSome = true) : ∀ d, makT l (k + d) id = makT l k id
  | 0 => rfl
  | d + 1 => by
    have ih := makT_stays l id k h d
    rw [show k + (d + 1) = (k + d) + 1 by omega, makT, ih, if_pos h]
theorem makT_zero (l : List InstT) : ∀ k, makT l k 0 = none
  | 0 => rfl
  | k + 1 => by rw [makT, makT_zero l k]; simp

theorem zeroI64 (w : World) : (zeroValue 3).run Tryz.prog w = .ok (.int .i64 0) w := by kernel_rfl

set_option maxHeartbeats 8000000 in
theorem makersOf_any (a : Option Addr) (n c : Nat) (l : List InstT) (w : World) (hv : InstsV w a l) (hok : InstsOk l) (hl : l.length = n) (hn : 40 * n ≤ 140737488351232) :
    Calls Tryz.prog 28 #[.slice a n c] w fun e w' => ∃ b, e = .returned (.map (some b)) ∧ w.heap.size ≤ b ∧ MapU w' 3 .i64 b n (makT l n) ∧ Below w.heap.size w w' := by
  have HV := hide hv
  have HOK := hide hok
  have HL := hide hl
  have HN : Hid (40 * n ≤ 140737488351232) := hn
  have hmm := @run_makeMap Tryz.prog
  have HM0 := hide (MapU.made w 3 .i64)
  have HB0 := hide ((Below.refl _ w).alloc (Nat.le_refl _) (.map #[] 0))
  have HTT := hide Tryz.underlying69
  have HTE := hide Tryz.underlying3
  clear hv hok hl hn
  go_enter Tryz.func28, Tryz.ntmps28
  go_wp2_with fail
  generalize w.alloc (.map #[] 0) = W0 at *
  go_loopw [11] (fun i wr => ∃ k : Nat, k ≤ n ∧ i = .int .i64 k ∧ MapU wr 3 .i64 w.heap.size k (makT l k) ∧ Below w.heap.size w wr) (fun i _ => n - (intOf i).toNat)
  case atStart => exact ⟨0, Nat.zero_le _, rfl, HM0.out, HB0.out⟩
  case round =>
    obtain ⟨k, hk, rfl, hM, hB⟩ := hrel
    clear HM0 HB0 hmm
    have hA := HV.out.below hB
    have hkb : (k : Int) < 140737488351232 := by have := HN.out; omega
    by_cases hlt : k < n
    · have hkl : k < l.length := by rw [HL.out]; exact hlt
      obtain ⟨g1, o1, aj, cj, nj, rfl, hg1, p1, p2, p3, p4, p5, p6, p7⟩ := hA k hkl
      have hki : (k : Int) < (n : Int) := by omega
      have hk0 : (0 : Int) ≤ (k : Int) := by omega
      have hz := HOK.out k hkl
      have hr0 := hz.2.2.2.2.1
      have hr1 := hz.2.2.2.2.2.1
      have HSU : Hid (∀ id, makT l (k + 1) id = if (makT l k id).isSome = true then makT l k id else if (nthI l k).2.2.1 = id ∧ id ≠ 0 then some (k : Int) else none) := fun id => rfl
      have HBD : Hid ((k : Int) < 9223372036854775807 ∧ k < maxLen) := by have := HN.out; exact ⟨by omega, by unfold maxLen; omega⟩
      generalize nthI l k = z at *
      obtain ⟨zo, zt, zr, zl⟩ := z
      simp only at *
      have hba : Below wr.heap.size wr (wr.alloc (.cells #[.int .u16 zo, .int .u32 zt, .int .u32 zr, .slice aj nj cj] 40)) := (Below.refl _ wr).alloc (Nat.le_refl _) _
      have HM2 := hide (hM.below hba)
      have HB2 := hide (hB.trans (hba.mono hB.size))
      have HR := hide (And.intro hr0 hr1)
      by_cases hz0 : zr = 0
      · subst hz0
        have HE : Hid (∀ id, makT l k id = makT l (k + 1) id) := fun id => by
          rw [HSU.out id]
          by_cases h : (makT l k id).isSome = true
          · rw [if_pos h]
          · rw [if_neg h, if_neg (by rintro ⟨rfl, h2⟩; exact h2 rfl)]; simpa using h
        clear hA hM hB p5 p6 p7 hz HSU
        go_wp2_with fail
        go_roundw
        case rel => exact ⟨k + 1, by omega, by go_num, (HM2.out.congr HE.out).mono (Nat.le_succ _), HB2.out⟩
        case measure => simp [intOf]; omega
      · have hz0' : (zr == 0) = false := by simpa using hz0
        have hlz : wr.heap.size < (wr.alloc (.cells #[.int .u16 zo, .int .u32 zt, .int .u32 zr, .slice aj nj cj] 40)).heap.size := by simp
        have r2 : (wr.alloc (.cells #[.int .u16 zo, .int .u32 zt, .int .u32 zr, .slice aj nj cj] 40)).cell? ⟨wr.heap.size, 2, none⟩ = some (.int .u32 zr) := (one_block (heap_alloc_new wr (.cells #[.int .u16 zo, .int .u32 zt, .int .u32 zr, .slice aj nj cj] 40))).1 2
        have HR2 := hide r2
        by_cases hs : (makT l k zr).isSome = true
        · have HE : Hid (∀ id, makT l k id = makT l (k + 1) id) := fun id => by
            rw [HSU.out id]
            by_cases h : (makT l k id).isSome = true
            · rw [if_pos h]
            · rw [if_neg h, if_neg (by rintro ⟨rfl, h2⟩; exact h hs)]; simpa using h
          clear hA hM hB p5 p6 p7 hz HSU r2
          go_wp2_with (at_lookup; refine wpList_lookU_ok rfl _ _ 69 rfl 3 .i64 HTT.out HTE.out (zeroI64 _) w.heap.size k (makT l k) rfl HM2.out zr rfl HR.out.1 HR.out.2 ?_; rw [hs])
          go_roundw
          case rel => exact ⟨k + 1, by omega, by go_num, (HM2.out.congr HE.out).mono (Nat.le_succ _), HB2.out⟩
          case measure => simp [intOf]; omega
        · have hs' : (makT l k zr).isSome = false := by simpa using hs
          have HE : Hid (∀ id, (if id = zr then some (k : Int) else makT l k id) = makT l (k + 1) id) := fun id => by
            rw [HSU.out id]
            by_cases e : id = zr
            · subst e; rw [if_pos rfl, if_neg hs, if_pos ⟨rfl, hz0⟩]
            · rw [if_neg e]
              by_cases h : (makT l k id).isSome = true
              · rw [if_pos h]
              · rw [if_neg h, if_neg (by rintro ⟨rfl, _⟩; exact e rfl)]; simpa using h
          clear hA hM hB p5 p6 p7 hz HSU hs
          have hwf : (Lit.int .i64 (k : Int)).wf = true := WalkArith.wf_i64 (by have := HBD.out.1; omega)
          have HWF := hide hwf
          clear hwf
          go_wp2_with (first | (at_lookup; refine wpList_lookU_ok rfl _ _ 69 rfl 3 .i64 HTT.out HTE.out (zeroI64 _) w.heap.size k (makT l k) rfl HM2.out zr rfl HR.out.1 HR.out.2 ?_; rw [hs']) | (at_mapUpdate; refine wpList_putU rfl _ _ _ 69 rfl 3 .i64 HTT.out HTE.out w.heap.size k (makT l k) rfl HM2.out HBD.out.2 zr (k : Int) rfl HR.out.1 HR.out.2 rfl HWF.out ?_; intro w5 hM5 hg5) | go_in)
          have HB5 := hide (HB2.out.grown hg5 HB2.out.size (fun j hj => by cases hj; exact Nat.le_refl _))
          have HM5 := hide (hM5.congr HE.out)
          clear hM5 hg5
          go_wp2_with fail
          go_roundw
          case rel => exact ⟨k + 1, by omega, by go_num, HM5.out, HB5.out⟩
          case measure => simp [intOf]; omega
    · obtain rfl : k = n := by omega
      have HM := hide hM
      have HB := hide hB
      clear hA hM hB
      go_wp2_with fail
      go_ret
      exact ⟨w.heap.size, rfl, Nat.le_refl _, HM.out, HB.out⟩

set_option maxHeartbeats 4000000 in
theorem refMaker_any (a : Option Addr) (n c : Nat) (l : List InstT) (id : Int) (to : Nat) (w : World) (hv : InstsV w a l) (hl : l.length = n) (hn : n ≤ 140737488351232) (ht : to ≤ n) :
    Calls Tryz.prog 25 #[.slice a n c, .int .u32 id, .int .i64 to] w fun e w' => e = .returned (.int .i64 (makV l to id)) ∧ w = w' := by
  have HV := hide hv
  have HL := hide hl
  unfold makV
  clear hv hl
  go_enter Tryz.func25, Tryz.ntmps25
  go_wp2_with fail
  go_loopw [7] (fun i wr => ∃ k : Nat, k ≤ to ∧ i = .int .i64 k ∧ makT l k id = none ∧ w = wr) (fun i _ => to - (intOf i).toNat)
  case atStart => exact ⟨0, Nat.zero_le _, rfl, rfl, rfl⟩
  case round =>
    obtain ⟨k, hk, rfl, hM, rfl⟩ := hrel
    have HM := hide hM
    clear hM
    by_cases hlt : k < to
    · have hkl : k < l.length := by rw [HL.out]; omega
      obtain ⟨g1, o1, aj, cj, nj, rfl, hg1, p1, p2, p3, p4, p5, p6, p7⟩ := HV.out k hkl
      have hki : (k : Int) < (n : Int) := by omega
      have hkt : (k : Int) < (to : Int) := by omega
      have hk0 : (0 : Int) ≤ (k : Int) := by omega
      have HSU : Hid (makT l (k + 1) id = if (nthI l k).2.2.1 = id ∧ id ≠ 0 then some (k : Int) else none) := by show _ = _; rw [makT, HM.out]; rfl
      have HST : Hid ((makT l (k + 1) id).isSome = true → makT l to id = makT l (k + 1) id) := fun h => by have := makT_stays l id (k + 1) h (to - (k + 1)); rwa [show k + 1 + (to - (k + 1)) = to by omega] at this
      generalize (nthI l k).2.2.1 = zr at *
      clear p1 p2 p4 p5 p6 p7
      by_cases he : zr = id ∧ id ≠ 0
      · obtain ⟨rfl, h0⟩ := he
        have h0' : (zr != 0) = true := by simpa using h0
        have h1' : (zr == zr) = true := by simp
        have HRE : Hid ((makT l to zr).getD (-1) = (k : Int)) := by
          have e := HSU.out
          rw [if_pos ⟨rfl, h0⟩] at e
          show _ = _
          rw [HST.out (by rw [e]; rfl), e]; rfl
        clear HSU HST h0
        go_wp2_with fail
        go_ret
        exact ⟨by rw [HRE.out]; rfl, rfl⟩
      · have HRE : Hid (makT l (k + 1) id = none) := by show _ = _; rw [HSU.out, if_neg he]
        by_cases h1 : zr = id
        · subst h1
          have h0 : zr = 0 := by
            by_cases h : zr = 0
            · exact h
            · exact absurd ⟨rfl, h⟩ he
          subst h0
          clear HSU HST he
          go_wp2_with fail
          go_roundw
          case rel => exact ⟨k + 1, by omega, by go_num, HRE.out, by first | rfl | trivial⟩
          case measure => simp [intOf]; omega
        · have h1' : (zr == id) = false := by simpa using h1
          clear HSU HST he h1
          go_wp2_with fail
          go_roundw
          case rel => exact ⟨k + 1, by omega, by go_num, HRE.out, by first | rfl | trivial⟩
          case measure => simp [intOf]; omega
    · obtain rfl : k = to := by omega
      have HRE : Hid ((makT l k id).getD (-1) = -1) := by show _ = _; rw [HM.out]; rfl
      clear HM
      go_wp2_with fail
      go_ret
      exact ⟨by rw [HRE.out]; rfl, rfl⟩

end Go.Proofs.YtjjoggpddafajaaGreat

/-
  Whether ids are made, and where: in plain mathematics.
-/
namespace Go.Proofs.YtjjoggpddafajaaGreat
open Go.RowKit
set_option linter.unusedVariables false
set_option linter.unusedSimpArgs false

/-- Are all ids made among the first k? -/
def allMade (l : List InstT) (k : Nat) (zs : List Int) : Bool := zs.all fun id => (makT l k id).isSome
/-- What is wrong with the ids at a place. -/
def faultAt (l : List InstT) (k : Nat) : Int :=
  if (makT l k (nthI l k).2.2.1).isSome = true then 90
  else if allMade l l.length (idsI (nthI l k)) = false then 91
  else if partI (nthI l k) = 7 ∧ allMade l k (idsI (nthI l k)) = false then 92 else 0
def idsF (l : List InstT) : Nat → Nat → Int × Nat
  | 0, _ => (0, 0)
  | m + 1, k => if faultAt l k ≠ 0 then (faultAt l k, k) else idsF l m (k + 1)
/-- What is wrong with a module's ids. -/
def idsE (b : Int) (l : List InstT) : Int × Nat := if (layE b l).1 ≠ 0 then layE b l else idsF l l.length 0
theorem idsF_ok {l : List InstT} : ∀ (j m k : Nat), (∀ i, i < j → faultAt l (k + i) = 0) → idsF l (j + m) k = idsF l m (k + j)
  | 0, m, k, _ => by rw [Nat.zero_add, Nat.add_zero]
  | j + 1, m, k, h => by
    have h0 := h 0 (by omega)
    rw [Nat.add_zero] at h0
    rw [show j + 1 + m = (j + m) + 1 by omega, idsF, if_neg (by rw [h0]; simp), idsF_ok j m (k + 1) (fun i hi => by have := h (i + 1) (by omega); rw [show k + 1 + i = k + (i + 1) by omega]; exact this)]
    congr 1; omega
theorem idsF_at {l : List InstT} {k : Nat} (hk : k < l.length) (hok : ∀ i, i < k → faultAt l i = 0) (hf : faultAt l k ≠ 0) : idsF l l.length 0 = (faultAt l k, k) := by
  have e := idsF_ok k (l.length - k) 0 (fun i hi => by rw [Nat.zero_add]; exact hok i hi)
  rw [show k + (l.length - k) = l.length by omega, Nat.zero_add] at e
  rw [e, show l.length - k = (l.length - k - 1) + 1 by omega, idsF, if_pos hf]
theorem idsF_done {l : List InstT} (hok : ∀ i, i < l.length → faultAt l i = 0) : idsF l l.length 0 = (0, 0) := by
  have e := idsF_ok l.length 0 0 (fun i hi => by rw [Nat.zero_add]; exact hok i hi)
  rw [Nat.add_zero] at e
  rw [e]; rfl

theorem makT_cut {l : List InstT} {id p : Int} : ∀ {n k : Nat}, k ≤ n → makT l n id = some p → p < k → makT l k id = some p
  | 0, k, hk, h, _ => by cases h
  | n + 1, k, hk, h, hp => by
    by_cases e : k = n + 1
    · rw [e]; exact h
    · rw [makT] at h
      split at h
      · exact makT_cut (by omega) h hp
      · split at h
        · cases h; omega
        · cases h
/-- The first maker stands ahead of a place just if there is one ahead. -/
theorem makT_ahead {l : List InstT} {id p : Int} {n k : Nat} (hk : k ≤ n) (h : makT l n id = some p) : (makT l k id).isSome = decide (p < (k : Int)) := by
  by_cases hp : p < (k : Int)
  · rw [makT_cut hk h hp]; simp [hp]
  · cases hm : makT l k id with
    | none => simp [hp]
    | some q =>
      have h1 := makT_stays l id k (by rw [hm]; rfl) (n - k)
      rw [show k + (n - k) = n by omega, hm, h] at h1
      cases h1
      have := (makT_some l id k p hm).2
      exact absurd this hp
theorem makT_own {l : List InstT} {k : Nat} (hk : k < l.length) (h0 : (nthI l k).2.2.1 ≠ 0) : ∃ p, makT l l.length (nthI l k).2.2.1 = some p := by
  have h1 : (makT l (k + 1) (nthI l k).2.2.1).isSome = true := by
    rw [makT]
    split
    · assumption
    · rw [if_pos ⟨rfl, h0⟩]; rfl
  have h2 := makT_stays l _ (k + 1) h1 (l.length - (k + 1))
  rw [show k + 1 + (l.length - (k + 1)) = l.length by omega] at h2
  obtain ⟨p, hp⟩ := Option.isSome_iff_exists.1 h1
  exact ⟨p, by rw [h2, hp]⟩

theorem okTo_sorted {l : List InstT} {n i j : Nat} (h : okTo l n) (hij : i ≤ j) (hj : j < n) : partI (nthI l i) ≤ partI (nthI l j) := by
  by_cases e : i = j
  · rw [e]; exact Int.le_refl _
  · have hm := h j hj
    rcases Int.lt_or_le (partI (nthI l j)) (partI (nthI l i)) with h1 | h1
    · rw [mayL_over (by omega) h1] at hm; cases hm
    · exact h1
theorem cntP_le_of {l : List InstT} {p : Nat} : ∀ {n k : Nat}, k ≤ n → (∀ j, k ≤ j → j < n → (p : Int) ≤ partI (nthI l j)) → cntP l p n ≤ k
  | 0, k, hk, _ => by rw [cntP]; omega
  | n + 1, k, hk, h => by
    by_cases e : k = n + 1
    · have := cntP_le l p (n + 1); omega
    · have := cntP_le_of (n := n) (k := k) (by omega) (fun j h1 h2 => h j h1 (by omega))
      rw [cntP_more (h n (by omega) (by omega))]; exact this
theorem cntP_ge_of {l : List InstT} {p : Nat} : ∀ {n k : Nat}, k ≤ n → (∀ j, j < k → partI (nthI l j) < p) → k ≤ cntP l p n
  | 0, k, hk, _ => by omega
  | n + 1, k, hk, h => by
    by_cases e : k = n + 1
    · subst e; rw [cntP_all h]; exact Nat.le_refl _
    · have := cntP_ge_of (n := n) (k := k) (by omega) h
      rw [cntP]; omega
theorem span_part {l : List InstT} {n k p : Nat} (h : okTo l n) (hk : k < n) : (cntP l p n ≤ k ↔ (p : Int) ≤ partI (nthI l k)) := by
  constructor
  · intro h1
    rcases Int.lt_or_le (partI (nthI l k)) p with h2 | h2
    · have := cntP_ge_of (l := l) (p := p) (n := n) (k := k + 1) (by omega) (fun j hj => by have := okTo_sorted h (show j ≤ k by omega) hk; omega)
      omega
    · exact h2
  · intro h1
    exact cntP_le_of (by omega) (fun j hj hj2 => by have := okTo_sorted h hj hj2; omega)
theorem layE_ok {b : Int} {l : List InstT} (h : (layE b l).1 = 0) : okTo l l.length ∧ (shapeE b l).1 = 0 ∧ layE b l = (0, 0) := by
  unfold layE at h ⊢
  by_cases h1 : (shapeE b l).1 = 0
  · rw [if_neg (by simpa using h1)] at h ⊢
    have key : ∀ m k, k + m = l.length → okTo l k → (layF l m k).1 = 0 → okTo l l.length ∧ layF l m k = (0, 0) := by
      intro m
      induction m with
      | zero =>
        intro k hk hok h0
        rw [layF] at h0 ⊢
        cases hO : openE l with
        | true => rw [hO] at h0; simp at h0
        | false => rw [show l.length = k by omega]; exact ⟨hok, rfl⟩
      | succ m ih =>
        intro k hk hok h0
        rw [layF] at h0 ⊢
        cases hm : mayL l k with
        | false => rw [hm] at h0; simp at h0
        | true =>
          rw [hm, if_pos rfl] at h0
          rw [if_pos rfl]
          exact ih (k + 1) (by omega) (hok.snoc hm) h0
    obtain ⟨q1, q2⟩ := key l.length 0 (by omega) (okTo_zero l) h
    exact ⟨q1, h1, q2⟩
  · rw [if_pos h1] at h; exact absurd h h1
theorem idsA_range {x : InstT} (h : InstOk x) : ∀ id ∈ idsI x, 0 ≤ id ∧ id < 4294967296 := by
  obtain ⟨_, _, h1, h2, _, _, h3, _⟩ := h
  intro id hid
  unfold idsI idsTo at hid
  rw [List.take_length] at hid
  rcases List.mem_append.1 hid with h | h
  · split at h
    · cases h
    · rw [List.mem_singleton] at h; subst h; exact ⟨h1, h2⟩
  · obtain ⟨y, hy, hi⟩ := List.mem_flatMap.1 h
    obtain ⟨j, hj, rfl⟩ := List.getElem_of_mem hy
    have hk := h3 j hj
    rw [show nthA x.2.2.2 j = x.2.2.2[j] by simp [nthA, List.getD, hj]] at hk
    unfold idsA at hi
    split at hi
    · rw [List.mem_singleton] at hi; subst hi; exact ⟨hk.2.2.1, hk.2.2.2.1⟩
    · cases hi
/-- What the loop over the ids of a place has found, with the first j of them. -/
def aheadJ (l : List InstT) (k j : Nat) : Bool := decide (partI (nthI l k) = 7) && !allMade l k ((idsI (nthI l k)).take j)
theorem allMade_snoc (l : List InstT) (k : Nat) (zs : List Int) (j : Nat) (hj : j < zs.length) : allMade l k (zs.take (j + 1)) = (allMade l k (zs.take j) && (makT l k (nth zs j)).isSome) := by
  unfold allMade
  rw [List.take_add_one, List.all_append, List.getElem?_eq_getElem hj]
  simp [nth, List.getD, hj]
theorem fault_first {l : List InstT} {k : Nat} (h : (makT l k (nthI l k).2.2.1).isSome = true) : faultAt l k = 90 := by unfold faultAt; rw [if_pos h]
theorem allMade_false {l : List InstT} {k : Nat} {zs : List Int} {j : Nat} (hj : j < zs.length) (h : (makT l k (nth zs j)).isSome = false) : allMade l k zs = false := by
  unfold allMade
  rw [List.all_eq_false]
  refine ⟨nth zs j, ?_, by rw [h]; simp⟩
  simp only [nth, List.getD, List.getElem?_eq_getElem hj]
  exact List.getElem_mem hj
theorem fault_unknown {l : List InstT} {k j : Nat} (h : (makT l k (nthI l k).2.2.1).isSome = false) (hj : j < (idsI (nthI l k)).length) (hn : (makT l l.length (nth (idsI (nthI l k)) j)).isSome = false) : faultAt l k = 91 := by
  unfold faultAt; rw [if_neg (by rw [h]; simp), if_pos (allMade_false hj hn)]
theorem faultAt_end {l : List InstT} {k : Nat} (h : (makT l k (nthI l k).2.2.1).isSome = false) (hall : allMade l l.length ((idsI (nthI l k)).take (idsI (nthI l k)).length) = true) : faultAt l k = if aheadJ l k (idsI (nthI l k)).length = true then 92 else 0 := by
  rw [List.take_length] at hall
  unfold faultAt aheadJ
  rw [if_neg (by rw [h]; simp), if_neg (by rw [hall]; simp), List.take_length]
  by_cases h7 : partI (nthI l k) = 7 <;> cases allMade l k (idsI (nthI l k)) <;> simp [h7]
end Go.Proofs.YtjjoggpddafajaaGreat

/-
  Parts of the package layout.
-/
namespace Go.Proofs.YtjjoggpddafajaaGreat
open Go.RowKit
set_option linter.unusedVariables false
set_option linter.unusedSimpArgs false
set_option maxRecDepth 10000

/-- The places of the parts, one behind the other. -/
def partsF (b : Int) (l : List InstT) (i : Nat) : Int := if (layE b l).1 ≠ 0 then 0 else cntP l ((i + 1) / 2) l.length
def partsV (f : Nat → Int) : Value := .agg #[.int .i64 (f 0), .int .i64 (f 1), .int .i64 (f 2), .int .i64 (f 3), .int .i64 (f 4), .int .i64 (f 5), .int .i64 (f 6), .int .i64 (f 7), .int .i64 (f 8), .int .i64 (f 9), .int .i64 (f 10), .int .i64 (f 11), .int .i64 (f 12), .int .i64 (f 13), .int .i64 (f 14), .int .i64 (f 15), .int .i64 (f 16), .int .i64 (f 17), .int .i64 (f 18), .int .i64 (f 19)]
theorem partsV_congr {f g : Nat → Int} (h : ∀ i, i < 20 → f i = g i) : partsV f = partsV g := by
  unfold partsV
  rw [h 0 (by omega), h 1 (by omega), h 2 (by omega), h 3 (by omega), h 4 (by omega), h 5 (by omega), h 6 (by omega), h 7 (by omega), h 8 (by omega), h 9 (by omega), h 10 (by omega), h 11 (by omega), h 12 (by omega), h 13 (by omega), h 14 (by omega), h 15 (by omega), h 16 (by omega), h 17 (by omega), h 18 (by omega), h 19 (by omega)]
theorem range_mid {w : World} {b t : Nat} {cs : List Value} {fr : Nat × Nat} (h : w.heap[b]? = some (.cells cs.toArray t fr)) (o n : Nat) : w.rangeAt b o ((cs.drop o).take n) := fun j v hv => by
  rw [List.getElem?_take] at hv
  split at hv
  · rw [List.getElem?_drop] at hv
    simp [World.cell?, h, hv]
  · cases hv
theorem yieldsC_load {P : Program} {ops : Array Oper} {C : World → Prop} {o : Oper} {a : Act} (hw : Region.wanted o (yielded ops a.tmps) = true) (ty : TypeId) (x : Operand) (ho : o.op = .load ty x)
    (b off : Nat) (hx : a.eval x = .pointer (some ⟨b, off, none⟩)) (cs : List Value) (d : TypeDesc) (hS : ∀ w, C w → w.rangeAt b off cs)
    (hu : P.underlying ty = some d) (hd : d.isRow = true) (hi : (P.info? ty).map (·.size) = some cs.length) : YieldsC P ops C o (.agg cs.toArray) a :=
  .inl ⟨hw, fun w hw' => by
    unfold execOp
    simp only [ho, hx, Instr.loadAt, Instr.sureAddr, Sem.run_bind, Sem.run_pure, Result.andThen_ok, run_loadVar_mid w b off ty cs d (hS w hw') hu hd hi]⟩

set_option maxHeartbeats 8000000 in
theorem layParts_any (gen bnd : Int) (a : Option Addr) (n c : Nat) (l : List InstT) (w : World) (hv : InstsV w a l) (hok : InstsOk l) (hl : l.length = n) (hn : 40 * n ≤ 140737488351232) (g0 : 0 ≤ gen) (g1 : gen < 4294967296) (b0 : 0 ≤ bnd) (b1 : bnd < 4294967296) :
    Calls Tryz.prog 19 #[modV gen bnd a n c] w fun e w' => e = .returned (.tuple #[partsV (partsF bnd l), .agg #[.int .i64 (layE bnd l).1, .int .i64 (layE bnd l).2]]) ∧ Below w.heap.size w w' := by
  have hb0 : Below w.heap.size w (((w.alloc (.cells #[.int .u32 gen, .int .u32 bnd, .slice a n c] 25)).alloc (.cells #[.int .i64 0, .int .i64 0, .int .i64 0, .int .i64 0, .int .i64 0, .int .i64 0, .int .i64 0, .int .i64 0, .int .i64 0, .int .i64 0, .int .i64 0, .int .i64 0, .int .i64 0, .int .i64 0, .int .i64 0, .int .i64 0, .int .i64 0, .int .i64 0, .int .i64 0, .int .i64 0] 53)).alloc (.cells #[.int .i64 0, .int .i64 0] 28)) := (((Below.refl _ w).alloc (Nat.le_refl _) _).alloc (by simp) _).alloc (by simp; omega) _
  have hC := walkOver_any gen bnd a n c l _ (hv.below hb0) hok hl hn g0 g1 b0 b1
  have HZB : Hid ((((w.alloc (.cells #[.int .u32 gen, .int .u32 bnd, .slice a n c] 25)).alloc (.cells #[.int .i64 0, .int .i64 0, .int .i64 0, .int .i64 0, .int .i64 0, .int .i64 0, .int .i64 0, .int .i64 0, .int .i64 0, .int .i64 0, .int .i64 0, .int .i64 0, .int .i64 0, .int .i64 0, .int .i64 0, .int .i64 0, .int .i64 0, .int .i64 0, .int .i64 0, .int .i64 0] 53)).alloc (.cells #[.int .i64 0, .int .i64 0] 28)).heap[w.heap.size + 1]? = some (.cells #[.int .i64 0, .int .i64 0, .int .i64 0, .int .i64 0, .int .i64 0, .int .i64 0, .int .i64 0, .int .i64 0, .int .i64 0, .int .i64 0, .int .i64 0, .int .i64 0, .int .i64 0, .int .i64 0, .int .i64 0, .int .i64 0, .int .i64 0, .int .i64 0, .int .i64 0, .int .i64 0] 53 (0, 0))) := by
    have := heap_alloc_new (w.alloc (.cells #[.int .u32 gen, .int .u32 bnd, .slice a n c] 25)) (.cells #[.int .i64 0, .int .i64 0, .int .i64 0, .int .i64 0, .int .i64 0, .int .i64 0, .int .i64 0, .int .i64 0, .int .i64 0, .int .i64 0, .int .i64 0, .int .i64 0, .int .i64 0, .int .i64 0, .int .i64 0, .int .i64 0, .int .i64 0, .int .i64 0, .int .i64 0, .int .i64 0] 53)
    rw [World.size_alloc] at this
    exact (Below.heap_alloc _ _ _ (by simp)).trans this
  have HSB : Hid ((((w.alloc (.cells #[.int .u32 gen, .int .u32 bnd, .slice a n c] 25)).alloc (.cells #[.int .i64 0, .int .i64 0, .int .i64 0, .int .i64 0, .int .i64 0, .int .i64 0, .int .i64 0, .int .i64 0, .int .i64 0, .int .i64 0, .int .i64 0, .int .i64 0, .int .i64 0, .int .i64 0, .int .i64 0, .int .i64 0, .int .i64 0, .int .i64 0, .int .i64 0, .int .i64 0] 53)).alloc (.cells #[.int .i64 0, .int .i64 0] 28)).heap[w.heap.size + 2]? = some (.cells #[.int .i64 0, .int .i64 0] 28 (0, 0))) := by
    have := heap_alloc_new ((w.alloc (.cells #[.int .u32 gen, .int .u32 bnd, .slice a n c] 25)).alloc (.cells #[.int .i64 0, .int .i64 0, .int .i64 0, .int .i64 0, .int .i64 0, .int .i64 0, .int .i64 0, .int .i64 0, .int .i64 0, .int .i64 0, .int .i64 0, .int .i64 0, .int .i64 0, .int .i64 0, .int .i64 0, .int .i64 0, .int .i64 0, .int .i64 0, .int .i64 0, .int .i64 0] 53)) (.cells #[.int .i64 0, .int .i64 0] 28)
    rw [World.size_alloc, World.size_alloc] at this
    exact this
  have HLT : Hid (w.heap.size + 2 < (((w.alloc (.cells #[.int .u32 gen, .int .u32 bnd, .slice a n c] 25)).alloc (.cells #[.int .i64 0, .int .i64 0, .int .i64 0, .int .i64 0, .int .i64 0, .int .i64 0, .int .i64 0, .int .i64 0, .int .i64 0, .int .i64 0, .int .i64 0, .int .i64 0, .int .i64 0, .int .i64 0, .int .i64 0, .int .i64 0, .int .i64 0, .int .i64 0, .int .i64 0, .int .i64 0] 53)).alloc (.cells #[.int .i64 0, .int .i64 0] 28)).heap.size) := by show _ < _; simp
  have HB0 := hide hb0
  unfold WalkQ at hC
  have HPF : Hid (∀ ps : Nat → Int, ((layE bnd l).1 ≠ 0 ∧ (∀ i, ps i = 0) ∨ (layE bnd l).1 = 0 ∧ SpansE l ps) → partsV ps = partsV (partsF bnd l)) := fun ps h => partsV_congr fun i hi => by
    unfold partsF
    rcases h with ⟨h1, h2⟩ | ⟨h1, h2⟩
    · rw [if_pos h1]; exact h2 i
    · rw [if_neg (by simpa using h1)]; exact h2 i hi
  have HQ : Hid (∀ e w', (∃ ps : Nat → Int, ((layE bnd l).1 ≠ 0 ∧ (∀ i, ps i = 0) ∨ (layE bnd l).1 = 0 ∧ SpansE l ps) ∧ e = .returned (.tuple #[partsV ps, .agg #[.int .i64 (layE bnd l).1, .int .i64 (layE bnd l).2]]) ∧ Below w.heap.size w w') → e = Ending.returned (.tuple #[partsV (partsF bnd l), .agg #[.int .i64 (layE bnd l).1, .int .i64 (layE bnd l).2]]) ∧ Below w.heap.size w w') := fun e w' ⟨ps, h1, h2, h3⟩ => ⟨by rw [h2, HPF.out ps h1], h3⟩
  have HRET : Hid (∀ (a' : Act) (Z : World) (ps : Nat → Int), slot a'.tmps 2 = .pointer (some ⟨w.heap.size + 1, 0, none⟩) → slot a'.tmps 3 = .pointer (some ⟨w.heap.size + 2, 0, none⟩) → a'.defers = [] → Z.heap[w.heap.size + 1]? = some (.cells #[.int .i64 (ps 0), .int .i64 (ps 1), .int .i64 (ps 2), .int .i64 (ps 3), .int .i64 (ps 4), .int .i64 (ps 5), .int .i64 (ps 6), .int .i64 (ps 7), .int .i64 (ps 8), .int .i64 (ps 9), .int .i64 (ps 10), .int .i64 (ps 11), .int .i64 (ps 12), .int .i64 (ps 13), .int .i64 (ps 14), .int .i64 (ps 15), .int .i64 (ps 16), .int .i64 (ps 17), .int .i64 (ps 18), .int .i64 (ps 19)] 53 (0, 0)) → Z.heap[w.heap.size + 2]? = some (.cells #[.int .i64 (layE bnd l).1, .int .i64 (layE bnd l).2] 28 (0, 0)) → Below w.heap.size w Z → ((layE bnd l).1 ≠ 0 ∧ (∀ i, ps i = 0) ∨ (layE bnd l).1 = 0 ∧ SpansE l ps) →
      bodyPost Tryz.prog Tryz.f19 (fun e w' => e = .returned (.tuple #[partsV (partsF bnd l), .agg #[.int .i64 (layE bnd l).1, .int .i64 (layE bnd l).2]]) ∧ Below w.heap.size w w') .ret a' Z) := by
    intro a' Z ps q2 q3 q4 q5 q6 q7 q8
    refine bodyPost_ret (v := .tuple #[partsV ps, .agg #[.int .i64 (layE bnd l).1, .int .i64 (layE bnd l).2]]) ?_ q4 (HQ.out _ _ ⟨ps, q8, rfl, q7⟩)
    have r5 := run_loadVar_mid (P := Tryz.prog) Z (w.heap.size + 1) 0 53 [.int .i64 (ps 0), .int .i64 (ps 1), .int .i64 (ps 2), .int .i64 (ps 3), .int .i64 (ps 4), .int .i64 (ps 5), .int .i64 (ps 6), .int .i64 (ps 7), .int .i64 (ps 8), .int .i64 (ps 9), .int .i64 (ps 10), .int .i64 (ps 11), .int .i64 (ps 12), .int .i64 (ps 13), .int .i64 (ps 14), .int .i64 (ps 15), .int .i64 (ps 16), .int .i64 (ps 17), .int .i64 (ps 18), .int .i64 (ps 19)] _ (range_of_block q5) Tryz.underlying53 rfl (by kernel_rfl)
    have r6 := run_loadVar_mid (P := Tryz.prog) Z (w.heap.size + 2) 0 28 [.int .i64 (layE bnd l).1, .int .i64 (layE bnd l).2] _ (range_of_block q6) Tryz.underlying28 rfl (by kernel_rfl)
    have hG2 : a'.tmps.getD 2 undef = .pointer (some ⟨w.heap.size + 1, 0, none⟩) := q2
    have hG3 : a'.tmps.getD 3 undef = .pointer (some ⟨w.heap.size + 2, 0, none⟩) := q3
    simp only [results, Tryz.results19, List.mapM_toArray, List.mapM_cons, List.mapM_nil, hG2, hG3, asAddr, Sem.run_bind, Sem.run_pure, Result.andThen_ok, bind_assoc, pure_bind, Sem.run_map, map_pure, r5, r6]
    rfl
  generalize partsF bnd l = PFF at *
  generalize layE bnd l = L at *
  obtain ⟨e1, e2⟩ := L
  unfold modV at *
  clear hb0 hv hok hl HPF HQ
  go_enter Tryz.func19, Tryz.ntmps19
  go_wp2_with fail
  generalize ((w.alloc (.cells #[.int .u32 gen, .int .u32 bnd, .slice a n c] 25)).alloc (.cells #[.int .i64 0, .int .i64 0, .int .i64 0, .int .i64 0, .int .i64 0, .int .i64 0, .int .i64 0, .int .i64 0, .int .i64 0, .int .i64 0, .int .i64 0, .int .i64 0, .int .i64 0, .int .i64 0, .int .i64 0, .int .i64 0, .int .i64 0, .int .i64 0, .int .i64 0, .int .i64 0] 53)).alloc (.cells #[.int .i64 0, .int .i64 0] 28) = W0 at *
  refine hC.mono ?_
  rintro e w1 ⟨ins, fv, ps, k, pt, kd, rfl, hb1, hone, hfs⟩
  have HFS : Hid (e1 ≠ 0 ∧ (∀ i, ps i = 0) ∨ e1 = 0 ∧ SpansE l ps) := by
    rcases hfs with ⟨h1, _, h2⟩ | ⟨h1, h2, _⟩
    · exact .inl ⟨h1, h2⟩
    · exact .inr ⟨h1, h2⟩
  clear hC hfs
  unfold walkV
  obtain ⟨k1, k2, k3, k4, k5, _⟩ := kept_walk w W0 w1 HB0.out hb1 ins fv ps k pt kd 0 0
  have HK1 := hide k1
  have HK2 := hide k2
  have HK3 := hide k3
  have HK4 := hide k4
  have HK5 := hide k5
  have hw1 : W0.heap.size ≤ w1.heap.size := hb1.size
  clear k1 k2 k3 k4 k5 hb1
  simp only
  go_wp2_with (with_reducible refine stopS 65 ?_)
  refine wpList_store_mid rfl 65 (.tmp 4) (.tmp 9) rfl w1.heap.size 0 #[ins, .int .i64 (ps 0), .int .i64 (ps 1), .int .i64 (ps 2), .int .i64 (ps 3), .int .i64 (ps 4), .int .i64 (ps 5), .int .i64 (ps 6), .int .i64 (ps 7), .int .i64 (ps 8), .int .i64 (ps 9), .int .i64 (ps 10), .int .i64 (ps 11), .int .i64 (ps 12), .int .i64 (ps 13), .int .i64 (ps 14), .int .i64 (ps 15), .int .i64 (ps 16), .int .i64 (ps 17), .int .i64 (ps 18), .int .i64 (ps 19), fv, .int .i64 k, .int .u8 pt, .int .u16 kd] rfl rfl HK1.out (by kernel_rfl) (by simp [hone.1, hone.2]; simp [Value.oneCell']) ?_
  simp only [Act.put]
  generalize ((w1.alloc (.cells #[.slice none 0 0, .int .i64 0, .int .i64 0, .int .i64 0, .int .i64 0, .int .i64 0, .int .i64 0, .int .i64 0, .int .i64 0, .int .i64 0, .int .i64 0, .int .i64 0, .int .i64 0, .int .i64 0, .int .i64 0, .int .i64 0, .int .i64 0, .int .i64 0, .int .i64 0, .int .i64 0, .int .i64 0, .slice none 0 0, .int .i64 0, .int .u8 0, .int .u16 0] 65)).alloc (.cells #[.int .i64 0, .int .i64 0] 28)).setCells w1.heap.size 0 [ins, .int .i64 (ps 0), .int .i64 (ps 1), .int .i64 (ps 2), .int .i64 (ps 3), .int .i64 (ps 4), .int .i64 (ps 5), .int .i64 (ps 6), .int .i64 (ps 7), .int .i64 (ps 8), .int .i64 (ps 9), .int .i64 (ps 10), .int .i64 (ps 11), .int .i64 (ps 12), .int .i64 (ps 13), .int .i64 (ps 14), .int .i64 (ps 15), .int .i64 (ps 16), .int .i64 (ps 17), .int .i64 (ps 18), .int .i64 (ps 19), fv, .int .i64 k, .int .u8 pt, .int .u16 kd] = X at *
  have hl0 := HLT.out
  have hlx := HK5.out
  have ht3 := there_of_block HK3.out 2 rfl
  refine wpList_store_mid rfl 28 (.tmp 5) (.tmp 10) rfl (w1.heap.size + 1) 0 #[.int .i64 e1, .int .i64 e2] rfl rfl ht3 (by kernel_rfl) (by simp [Value.oneCell']) ?_
  simp only [Act.put]
  have hgx := setCells_grown (w1.heap.size + 1) [.int .i64 e1, .int .i64 e2] 0 X
  have HY1 : Hid ((X.setCells (w1.heap.size + 1) 0 [.int .i64 e1, .int .i64 e2]).heap[w1.heap.size]? = some (.cells #[ins, .int .i64 (ps 0), .int .i64 (ps 1), .int .i64 (ps 2), .int .i64 (ps 3), .int .i64 (ps 4), .int .i64 (ps 5), .int .i64 (ps 6), .int .i64 (ps 7), .int .i64 (ps 8), .int .i64 (ps 9), .int .i64 (ps 10), .int .i64 (ps 11), .int .i64 (ps 12), .int .i64 (ps 13), .int .i64 (ps 14), .int .i64 (ps 15), .int .i64 (ps 16), .int .i64 (ps 17), .int .i64 (ps 18), .int .i64 (ps 19), fv, .int .i64 k, .int .u8 pt, .int .u16 kd] 65 (0, 0))) := (hgx.block _ (by omega) (by simp)).trans HK2.out
  have HY2 := hide (setCells_all [.int .i64 e1, .int .i64 e2] HK3.out rfl)
  have HY3 := hide (below_grown HK4.out hgx (fun g e => by simp at e; omega))
  have HY4 : Hid (w1.heap.size + 1 < (X.setCells (w1.heap.size + 1) 0 [.int .i64 e1, .int .i64 e2]).heap.size) := Nat.lt_of_lt_of_le hlx hgx.size
  clear hgx ht3 HK1 HK2 HK3 HK4 HK5 hlx hone
  generalize X.setCells (w1.heap.size + 1) 0 [.int .i64 e1, .int .i64 e2] = Y at *
  go_wp2_with fail
  have kz := (HY3.out.block (w.heap.size + 1) (by omega)).trans HZB.out
  have ks := (HY3.out.block (w.heap.size + 2) (by omega)).trans HSB.out
  have hsz : w.heap.size + 2 < Y.heap.size := by have := HY3.out.size; omega
  have hly := HY4.out
  have hgy1 := setCells_grown (w.heap.size + 1) [.int .i64 (ps 0), .int .i64 (ps 1), .int .i64 (ps 2), .int .i64 (ps 3), .int .i64 (ps 4), .int .i64 (ps 5), .int .i64 (ps 6), .int .i64 (ps 7), .int .i64 (ps 8), .int .i64 (ps 9), .int .i64 (ps 10), .int .i64 (ps 11), .int .i64 (ps 12), .int .i64 (ps 13), .int .i64 (ps 14), .int .i64 (ps 15), .int .i64 (ps 16), .int .i64 (ps 17), .int .i64 (ps 18), .int .i64 (ps 19)] 0 Y.drew
  have hp1 := setCells_all (w := Y.drew) [.int .i64 (ps 0), .int .i64 (ps 1), .int .i64 (ps 2), .int .i64 (ps 3), .int .i64 (ps 4), .int .i64 (ps 5), .int .i64 (ps 6), .int .i64 (ps 7), .int .i64 (ps 8), .int .i64 (ps 9), .int .i64 (ps 10), .int .i64 (ps 11), .int .i64 (ps 12), .int .i64 (ps 13), .int .i64 (ps 14), .int .i64 (ps 15), .int .i64 (ps 16), .int .i64 (ps 17), .int .i64 (ps 18), .int .i64 (ps 19)] kz rfl
  have hgy2 := setCells_grown (w.heap.size + 2) [.int .i64 e1, .int .i64 e2] 0 (Y.drew.setCells (w.heap.size + 1) 0 [.int .i64 (ps 0), .int .i64 (ps 1), .int .i64 (ps 2), .int .i64 (ps 3), .int .i64 (ps 4), .int .i64 (ps 5), .int .i64 (ps 6), .int .i64 (ps 7), .int .i64 (ps 8), .int .i64 (ps 9), .int .i64 (ps 10), .int .i64 (ps 11), .int .i64 (ps 12), .int .i64 (ps 13), .int .i64 (ps 14), .int .i64 (ps 15), .int .i64 (ps 16), .int .i64 (ps 17), .int .i64 (ps 18), .int .i64 (ps 19)])
  have ks2 := (hgy1.block (w.heap.size + 2) hsz (by simp)).trans ks
  have hp2 := setCells_all (w := Y.drew.setCells (w.heap.size + 1) 0 [.int .i64 (ps 0), .int .i64 (ps 1), .int .i64 (ps 2), .int .i64 (ps 3), .int .i64 (ps 4), .int .i64 (ps 5), .int .i64 (ps 6), .int .i64 (ps 7), .int .i64 (ps 8), .int .i64 (ps 9), .int .i64 (ps 10), .int .i64 (ps 11), .int .i64 (ps 12), .int .i64 (ps 13), .int .i64 (ps 14), .int .i64 (ps 15), .int .i64 (ps 16), .int .i64 (ps 17), .int .i64 (ps 18), .int .i64 (ps 19)]) [.int .i64 e1, .int .i64 e2] ks2 rfl
  have HP1 : Hid (((Y.drew.setCells (w.heap.size + 1) 0 [.int .i64 (ps 0), .int .i64 (ps 1), .int .i64 (ps 2), .int .i64 (ps 3), .int .i64 (ps 4), .int .i64 (ps 5), .int .i64 (ps 6), .int .i64 (ps 7), .int .i64 (ps 8), .int .i64 (ps 9), .int .i64 (ps 10), .int .i64 (ps 11), .int .i64 (ps 12), .int .i64 (ps 13), .int .i64 (ps 14), .int .i64 (ps 15), .int .i64 (ps 16), .int .i64 (ps 17), .int .i64 (ps 18), .int .i64 (ps 19)]).setCells (w.heap.size + 2) 0 [.int .i64 e1, .int .i64 e2]).heap[w.heap.size + 1]? = some (.cells #[.int .i64 (ps 0), .int .i64 (ps 1), .int .i64 (ps 2), .int .i64 (ps 3), .int .i64 (ps 4), .int .i64 (ps 5), .int .i64 (ps 6), .int .i64 (ps 7), .int .i64 (ps 8), .int .i64 (ps 9), .int .i64 (ps 10), .int .i64 (ps 11), .int .i64 (ps 12), .int .i64 (ps 13), .int .i64 (ps 14), .int .i64 (ps 15), .int .i64 (ps 16), .int .i64 (ps 17), .int .i64 (ps 18), .int .i64 (ps 19)] 53 (0, 0))) := (hgy2.block (w.heap.size + 1) (by have h2 := hgy1.size; have h3 : Y.drew.heap.size = Y.heap.size := rfl; omega) (by simp)).trans hp1
  have HP2 := hide hp2
  have HBF := hide (below_grown (below_grown ((HB0.out.trans (HY3.out.mono HB0.out.size)).drew) hgy1 (fun g e => by simp at e; omega)) hgy2 (fun g e => by simp at e; omega))
  have ht1 := there_of_block (w := Y.drew) kz 20 rfl
  have ht2 := there_of_block ks2 2 rfl
  have hC0 : Y.drew.heap[w1.heap.size]? = Y.heap[w1.heap.size]? ∧ Y.drew.heap[w1.heap.size + 1]? = Y.heap[w1.heap.size + 1]? := ⟨rfl, rfl⟩
  have hC1 : (Y.drew.setCells (w.heap.size + 1) 0 [.int .i64 (ps 0), .int .i64 (ps 1), .int .i64 (ps 2), .int .i64 (ps 3), .int .i64 (ps 4), .int .i64 (ps 5), .int .i64 (ps 6), .int .i64 (ps 7), .int .i64 (ps 8), .int .i64 (ps 9), .int .i64 (ps 10), .int .i64 (ps 11), .int .i64 (ps 12), .int .i64 (ps 13), .int .i64 (ps 14), .int .i64 (ps 15), .int .i64 (ps 16), .int .i64 (ps 17), .int .i64 (ps 18), .int .i64 (ps 19)]).heap[w1.heap.size]? = Y.heap[w1.heap.size]? ∧ (Y.drew.setCells (w.heap.size + 1) 0 [.int .i64 (ps 0), .int .i64 (ps 1), .int .i64 (ps 2), .int .i64 (ps 3), .int .i64 (ps 4), .int .i64 (ps 5), .int .i64 (ps 6), .int .i64 (ps 7), .int .i64 (ps 8), .int .i64 (ps 9), .int .i64 (ps 10), .int .i64 (ps 11), .int .i64 (ps 12), .int .i64 (ps 13), .int .i64 (ps 14), .int .i64 (ps 15), .int .i64 (ps 16), .int .i64 (ps 17), .int .i64 (ps 18), .int .i64 (ps 19)]).heap[w1.heap.size + 1]? = Y.heap[w1.heap.size + 1]? := ⟨hgy1.block _ (by show _ < Y.heap.size; omega) (by simp; omega), hgy1.block _ (by show _ < Y.heap.size; omega) (by simp; omega)⟩
  have hC2 : ((Y.drew.setCells (w.heap.size + 1) 0 [.int .i64 (ps 0), .int .i64 (ps 1), .int .i64 (ps 2), .int .i64 (ps 3), .int .i64 (ps 4), .int .i64 (ps 5), .int .i64 (ps 6), .int .i64 (ps 7), .int .i64 (ps 8), .int .i64 (ps 9), .int .i64 (ps 10), .int .i64 (ps 11), .int .i64 (ps 12), .int .i64 (ps 13), .int .i64 (ps 14), .int .i64 (ps 15), .int .i64 (ps 16), .int .i64 (ps 17), .int .i64 (ps 18), .int .i64 (ps 19)]).setCells (w.heap.size + 2) 0 [.int .i64 e1, .int .i64 e2]).heap[w1.heap.size]? = Y.heap[w1.heap.size]? ∧ ((Y.drew.setCells (w.heap.size + 1) 0 [.int .i64 (ps 0), .int .i64 (ps 1), .int .i64 (ps 2), .int .i64 (ps 3), .int .i64 (ps 4), .int .i64 (ps 5), .int .i64 (ps 6), .int .i64 (ps 7), .int .i64 (ps 8), .int .i64 (ps 9), .int .i64 (ps 10), .int .i64 (ps 11), .int .i64 (ps 12), .int .i64 (ps 13), .int .i64 (ps 14), .int .i64 (ps 15), .int .i64 (ps 16), .int .i64 (ps 17), .int .i64 (ps 18), .int .i64 (ps 19)]).setCells (w.heap.size + 2) 0 [.int .i64 e1, .int .i64 e2]).heap[w1.heap.size + 1]? = Y.heap[w1.heap.size + 1]? :=
    ⟨(hgy2.block _ (by have h2 := hgy1.size; have h3 : Y.drew.heap.size = Y.heap.size := rfl; omega) (by simp; omega)).trans hC1.1, (hgy2.block _ (by have h2 := hgy1.size; have h3 : Y.drew.heap.size = Y.heap.size := rfl; omega) (by simp; omega)).trans hC1.2⟩
  have LC1 : ∀ w' : World, (w'.heap[w1.heap.size]? = Y.heap[w1.heap.size]? ∧ w'.heap[w1.heap.size + 1]? = Y.heap[w1.heap.size + 1]?) → w'.rangeAt w1.heap.size 1 [.int .i64 (ps 0), .int .i64 (ps 1), .int .i64 (ps 2), .int .i64 (ps 3), .int .i64 (ps 4), .int .i64 (ps 5), .int .i64 (ps 6), .int .i64 (ps 7), .int .i64 (ps 8), .int .i64 (ps 9), .int .i64 (ps 10), .int .i64 (ps 11), .int .i64 (ps 12), .int .i64 (ps 13), .int .i64 (ps 14), .int .i64 (ps 15), .int .i64 (ps 16), .int .i64 (ps 17), .int .i64 (ps 18), .int .i64 (ps 19)] := fun w' h => range_mid (cs := [ins, .int .i64 (ps 0), .int .i64 (ps 1), .int .i64 (ps 2), .int .i64 (ps 3), .int .i64 (ps 4), .int .i64 (ps 5), .int .i64 (ps 6), .int .i64 (ps 7), .int .i64 (ps 8), .int .i64 (ps 9), .int .i64 (ps 10), .int .i64 (ps 11), .int .i64 (ps 12), .int .i64 (ps 13), .int .i64 (ps 14), .int .i64 (ps 15), .int .i64 (ps 16), .int .i64 (ps 17), .int .i64 (ps 18), .int .i64 (ps 19), fv, .int .i64 k, .int .u8 pt, .int .u16 kd]) (h.1.trans HY1.out) 1 20
  have LC2 : ∀ w' : World, (w'.heap[w1.heap.size]? = Y.heap[w1.heap.size]? ∧ w'.heap[w1.heap.size + 1]? = Y.heap[w1.heap.size + 1]?) → w'.rangeAt (w1.heap.size + 1) 0 [.int .i64 e1, .int .i64 e2] := fun w' h => range_of_block (h.2.trans HY2.out)
  clear hgy1 hp1 hgy2 hp2 kz ks ks2
  have hmix : Tryz.prog.follows .mixedOrders = true := by kernel_rfl
  refine (wpIn_wide (n := 0)).1 ?_
  refine wpIn_normal (wpIn_region_any hmix (wpAnyE_sound (C := fun w' => w'.heap[w1.heap.size]? = Y.heap[w1.heap.size]? ∧ w'.heap[w1.heap.size + 1]? = Y.heap[w1.heap.size + 1]?) (E := fun i => false) _ _ _ _ ?_))
  change wpAnyE _ _ _ _ _ _ _ _ _ _ _ (World.drew _)
  refine wpAnyE_takeD (i := 0) (some 11) (v := .pointer (some ⟨w1.heap.size, 1, none⟩)) (fun _ => trivial) (by kernel_rfl) rfl rfl (by kernel_rfl) (by kernel_rfl) (by kernel_rfl) (by kernel_rfl) (fun _ _ _ h => by cases h.1) hC0 (Or.inl ⟨by rfl, fun w' hC => by clear hC; go_simp⟩) ?_
  simp only [Act.put, List.setIfInBounds_toArray, List.set_cons_succ, List.set_cons_zero]
  refine wpAnyE_takeD (i := 1) (some 12) (v := .agg #[.int .i64 (ps 0), .int .i64 (ps 1), .int .i64 (ps 2), .int .i64 (ps 3), .int .i64 (ps 4), .int .i64 (ps 5), .int .i64 (ps 6), .int .i64 (ps 7), .int .i64 (ps 8), .int .i64 (ps 9), .int .i64 (ps 10), .int .i64 (ps 11), .int .i64 (ps 12), .int .i64 (ps 13), .int .i64 (ps 14), .int .i64 (ps 15), .int .i64 (ps 16), .int .i64 (ps 17), .int .i64 (ps 18), .int .i64 (ps 19)]) (fun _ => trivial) (by kernel_rfl) rfl rfl (by kernel_rfl) (by kernel_rfl) (by kernel_rfl) (by kernel_rfl) (fun _ _ _ h => by cases h.1) hC0 (yieldsC_load rfl 53 (.tmp 11) rfl w1.heap.size 1 rfl [.int .i64 (ps 0), .int .i64 (ps 1), .int .i64 (ps 2), .int .i64 (ps 3), .int .i64 (ps 4), .int .i64 (ps 5), .int .i64 (ps 6), .int .i64 (ps 7), .int .i64 (ps 8), .int .i64 (ps 9), .int .i64 (ps 10), .int .i64 (ps 11), .int .i64 (ps 12), .int .i64 (ps 13), .int .i64 (ps 14), .int .i64 (ps 15), .int .i64 (ps 16), .int .i64 (ps 17), .int .i64 (ps 18), .int .i64 (ps 19)] _ LC1 Tryz.underlying53 rfl (by kernel_rfl)) ?_
  simp only [Act.put, List.setIfInBounds_toArray, List.set_cons_succ, List.set_cons_zero]
  refine wpAnyE_takeD (i := 2) (some 13) (v := .agg #[.int .i64 e1, .int .i64 e2]) (fun _ => trivial) (by kernel_rfl) rfl rfl (by kernel_rfl) (by kernel_rfl) (by kernel_rfl) (by kernel_rfl) (fun _ _ _ h => by cases h.1) hC0 (yieldsC_load rfl 28 (.tmp 5) rfl (w1.heap.size + 1) 0 rfl [.int .i64 e1, .int .i64 e2] _ LC2 Tryz.underlying28 rfl (by kernel_rfl)) ?_
  simp only [Act.put, List.setIfInBounds_toArray, List.set_cons_succ, List.set_cons_zero]
  refine wpAnyE_ready (rs := [3]) (by kernel_rfl) (by simp) ?_
  refine AllE.cons rfl (fun K hK => ?_) AllE.nil
  refine stepAny_store _ (fun _ => trivial) rfl 53 (.tmp 2) (.tmp 12) rfl (w.heap.size + 1) 0 #[.int .i64 (ps 0), .int .i64 (ps 1), .int .i64 (ps 2), .int .i64 (ps 3), .int .i64 (ps 4), .int .i64 (ps 5), .int .i64 (ps 6), .int .i64 (ps 7), .int .i64 (ps 8), .int .i64 (ps 9), .int .i64 (ps 10), .int .i64 (ps 11), .int .i64 (ps 12), .int .i64 (ps 13), .int .i64 (ps 14), .int .i64 (ps 15), .int .i64 (ps 16), .int .i64 (ps 17), .int .i64 (ps 18), .int .i64 (ps 19)] rfl rfl ht1 (by kernel_rfl) (by simp [Value.oneCell']) ?_
  refine hK _ _ (.inr hC1) ?_
  clear hK K
  refine wpAnyE_ready (rs := [4]) (by kernel_rfl) (by simp) ?_
  refine AllE.cons rfl (fun K hK => ?_) AllE.nil
  refine stepAny_store _ (fun _ => trivial) rfl 28 (.tmp 3) (.tmp 13) rfl (w.heap.size + 2) 0 #[.int .i64 e1, .int .i64 e2] rfl rfl ht2 (by kernel_rfl) (by simp [Value.oneCell']) ?_
  refine hK _ _ (.inr hC2) ?_
  clear hK K
  refine wpAnyE_done (by kernel_rfl) ⟨rfl, ?_⟩ _
  clear ht1 ht2 hC1 hC2 hC0 LC1 LC2
  dsimp only
  generalize (Y.drew.setCells (w.heap.size + 1) 0 [.int .i64 (ps 0), .int .i64 (ps 1), .int .i64 (ps 2), .int .i64 (ps 3), .int .i64 (ps 4), .int .i64 (ps 5), .int .i64 (ps 6), .int .i64 (ps 7), .int .i64 (ps 8), .int .i64 (ps 9), .int .i64 (ps 10), .int .i64 (ps 11), .int .i64 (ps 12), .int .i64 (ps 13), .int .i64 (ps 14), .int .i64 (ps 15), .int .i64 (ps 16), .int .i64 (ps 17), .int .i64 (ps 18), .int .i64 (ps 19)]).setCells (w.heap.size + 2) 0 [.int .i64 e1, .int .i64 e2] = Z at *
  rw [then_normalW]
  go_wp2_with fail
  exact HRET.out _ Z ps rfl rfl rfl HP1.out HP2.out HBF.out HFS.out
end Go.Proofs.YtjjoggpddafajaaGreat
