/-
  Texts laid together in one: MapU, IdsMakers, MathIc, LayoutCheck.
-/
import Derived.WalkSpells
import Derived.WalkMore
import Derived.Maps.OwnSet
import Derived.Test.YtckhgdjcofpijabProg
import Derived.Test.YtckhgdjcofpijabB01
import Derived.Test.YtckhgdjcofpijabB07
import Derived.BigRegion
import Derived.Test.YtckhgdjcofpijabB09
import Derived.Test.YtckhgdjcofpijabB16
import Derived.Deep.RegionWith
import Derived.Deep.MidRow
/-
  A map by words, with numbers in it, as a function of its keys.
-/
namespace Go.Proofs.Ytckhgdjcofpijab
open Go.RowKit Go.Maps
set_option linter.unusedVariables false
set_option linter.unusedSimpArgs false
set_option maxRecDepth 10000

theorem keyU : Keyed Try.prog 22 := int_keyed Try.underlying22
theorem keyU_of {x : Int} (h0 : 0 ≤ x) (h1 : x < 4294967296) : keyOf Try.prog 22 (.int .u32 x) = some (.int .u32 x) := keyOf_int_mk Try.underlying22 (by simp [Lit.wf, show IntKind.u32.min = 0 from rfl, show IntKind.u32.max = 4294967295 from rfl]; omega)

/-- Block b is a map of at most n entries: at the key x stands f x. -/
def MapU (w : World) (E : TypeId) (q : IntKind) (b n : Nat) (f : Int → Option Int) : Prop :=
  ∃ D : DataW Unit, w.ownsMap Try.prog 22 (plainElem Try.prog E) b n D ∧ (∀ x, Maps.has D (.int .u32 x) = (f x).isSome) ∧ ∀ x, D.atKey (.int .u32 x) (.lit (.int q 0)) = .lit (.int q ((f x).getD 0))
theorem MapU.made (w : World) (E : TypeId) (q : IntKind) : MapU (w.alloc (.map #[] 0)) E q w.heap.size 0 (fun _ => none) :=
  ⟨.map [], World.ownsMap_made _ _ _ _, fun x => rfl, fun x => rfl⟩
theorem MapU.lt {w : World} {E : TypeId} {q : IntKind} {b n : Nat} {f : Int → Option Int} (h : MapU w E q b n f) : b < w.heap.size := by obtain ⟨D, h1, _⟩ := h; exact h1.lt
theorem MapU.below {w w' : World} {E : TypeId} {q : IntKind} {b n : Nat} {f : Int → Option Int} (h : MapU w E q b n f) (hb : Below w.heap.size w w') : MapU w' E q b n f := by
  have hl := h.lt
  obtain ⟨D, ⟨es, ck, h1, h2⟩, h3⟩ := h
  exact ⟨D, ⟨es, ck, (hb.block b hl).trans h1, h2⟩, h3⟩
theorem MapU.block {w w' : World} {E : TypeId} {q : IntKind} {b n : Nat} {f : Int → Option Int} (h : MapU w E q b n f) (hb : w'.heap[b]? = w.heap[b]?) : MapU w' E q b n f := by
  obtain ⟨D, ⟨es, ck, h1, h2⟩, h3⟩ := h
  exact ⟨D, ⟨es, ck, hb.trans h1, h2⟩, h3⟩
theorem MapU.mono {w : World} {E : TypeId} {q : IntKind} {b n n' : Nat} {f : Int → Option Int} (h : MapU w E q b n f) (hn : n ≤ n') : MapU w E q b n' f := by
  obtain ⟨D, h1, h2⟩ := h
  exact ⟨D, h1.mono hn, h2⟩
theorem MapU.congr {w : World} {E : TypeId} {q : IntKind} {b n : Nat} {f g : Int → Option Int} (h : MapU w E q b n f) (e : ∀ x, f x = g x) : MapU w E q b n g := by
  have : f = g := funext e
  rw [← this]; exact h
theorem MapU.put {w' : World} {E : TypeId} {q : IntKind} {b n' : Nat} {f : Int → Option Int} {D : DataW Unit} {x v : Int} (hD : IsMap D) (h1 : ∀ x, Maps.has D (.int .u32 x) = (f x).isSome) (h2 : ∀ x, D.atKey (.int .u32 x) (.lit (.int q 0)) = .lit (.int q ((f x).getD 0)))
    (h : w'.ownsMap Try.prog 22 (plainElem Try.prog E) b n' (D.put (.int .u32 x) (.lit (.int q v)))) : MapU w' E q b n' (fun y => if y = x then some v else f y) := by
  refine ⟨_, h, fun y => ?_, fun y => ?_⟩
  · show _ = (if y = x then some v else f y).isSome
    by_cases e : y = x
    · subst e; rw [if_pos rfl]; exact has_put_same (k := .int .u32 y) hD (by simp [WideAt.IsKeyLit]) _
    · rw [if_neg e, ← h1 y]; exact has_put_other (by simpa using e) _
  · show _ = DataW.lit (.int q ((if y = x then some v else f y).getD 0))
    by_cases e : y = x
    · subst e; rw [if_pos rfl]; exact atKey_put_same (k := .int .u32 y) hD (by simp [WideAt.IsKeyLit]) _ _
    · rw [if_neg e, ← h2 y]; exact atKey_put_other (by simpa using e) _ _

section
variable {w : World} {ops : Array Oper} {rest : List Oper} {o : Oper} {a : Act} {Q : Exit → Act → World → Prop}
/-- 'v, ok := m[x]'. -/
theorem wpList_lookU_ok (hg : o.guard = none) (m x : Operand) (t : TypeId) (hop : o.op = Op.lookup t m x true) (E : TypeId) (q : IntKind) (ht : Try.prog.underlying t = some (.map 22 E)) (he : Try.prog.underlying E = some (.int q)) (hz : (zeroValue E).run Try.prog w = .ok (.int q 0) w)
    (b n : Nat) (f : Int → Option Int) (hm : a.eval m = .map (some b)) (h : MapU w E q b n f) (key : Int) (hx : a.eval x = .int .u32 key) (k0 : 0 ≤ key) (k1 : key < 4294967296)
    (hK : wpList Try.prog ops Q rest (a.put o.dst (.tuple #[.int q ((f key).getD 0), .bool (f key).isSome])) w) : wpList Try.prog ops Q (o :: rest) a w := by
  obtain ⟨D, h1, h2, h3⟩ := h
  refine wpList_lookup_own_ok_int w hg m x t hop 22 E q keyU ht he hz b n D hm h1 _ _ hx (keyU_of k0 k1) ?_
  intro c hat _
  rw [h3] at hat
  simp only [DataW.lit.injEq, Lit.int.injEq, true_and] at hat
  rw [← hat, h2]
  exact hK
/-- 'v := m[x]'. -/
theorem wpList_lookU (hg : o.guard = none) (m x : Operand) (t : TypeId) (hop : o.op = Op.lookup t m x false) (E : TypeId) (q : IntKind) (ht : Try.prog.underlying t = some (.map 22 E)) (he : Try.prog.underlying E = some (.int q)) (hz : (zeroValue E).run Try.prog w = .ok (.int q 0) w)
    (b n : Nat) (f : Int → Option Int) (hm : a.eval m = .map (some b)) (h : MapU w E q b n f) (key : Int) (hx : a.eval x = .int .u32 key) (k0 : 0 ≤ key) (k1 : key < 4294967296)
    (hK : wpList Try.prog ops Q rest (a.put o.dst (.int q ((f key).getD 0))) w) : wpList Try.prog ops Q (o :: rest) a w := by
  obtain ⟨D, h1, h2, h3⟩ := h
  refine wpList_lookup_own_int w hg m x t hop 22 E q keyU ht he hz b n D hm h1 _ _ hx (keyU_of k0 k1) ?_
  intro c hat _
  rw [h3] at hat
  simp only [DataW.lit.injEq, Lit.int.injEq, true_and] at hat
  rw [← hat]
  exact hK
/-- 'm[x] = v'. -/
theorem wpList_putU (hg : o.guard = none) (m x v : Operand) (t : TypeId) (hop : o.op = Op.mapUpdate t m x v) (E : TypeId) (q : IntKind) (ht : Try.prog.underlying t = some (.map 22 E)) (he : Try.prog.underlying E = some (.int q))
    (b n : Nat) (f : Int → Option Int) (hm : a.eval m = .map (some b)) (h : MapU w E q b n f) (hn : n < maxLen) (key val : Int) (hx : a.eval x = .int .u32 key) (k0 : 0 ≤ key) (k1 : key < 4294967296) (hv : a.eval v = .int q val) (hw : (Lit.int q val).wf = true)
    (hK : ∀ w', MapU w' E q b (n + 1) (fun y => if y = key then some val else f y) → w.grownBy w' (some b) → wpList Try.prog ops Q rest (a.put o.dst undef) w') : wpList Try.prog ops Q (o :: rest) a w := by
  obtain ⟨D, h1, h2, h3⟩ := h
  refine wpList_mapUpdate_own w hg m x v t hop 22 E keyU ht _ b n D hm h1 hn _ _ _ hx hv (keyU_of k0 k1) _ [] (plainElem_int he hw) ?_
  intro w' h4 h5
  exact hK w' (MapU.put h1.isMap h2 h3 h4) h5
end

end Go.Proofs.Ytckhgdjcofpijab

/-
  makersOf of the package ids: a map from each id that is made to the least place at which it is made; the document's Maker.
-/
namespace Go.Proofs.Ytckhgdjcofpijab
open Go.RowKit Go.Maps
set_option linter.unusedVariables false
set_option linter.unusedSimpArgs false
set_option maxRecDepth 10000

/-- The least place below k at which an id is made. -/
def makT (l : List InstT) : Nat → Int → Option Int
  | 0, _ => none
  | k + 1, id => if (makT l k id).isSome = true then makT l k id else if (nthI l k).2.2.1 = id ∧ id ≠ 0 then some (k : Int) else none
def makV (l : List InstT) (k : Nat) (id : Int) : Int := (makT l k id).getD (-1)
theorem makT_some (l : List InstT) (id : Int) : ∀ k p, makT l k id = some p → 0 ≤ p ∧ p < (k : Int)
  | 0, p, h => by cases h
  | k + 1, p, h => by
    rw [makT] at h
    split at h
    · have := makT_some l id k p h; omega
    · split at h
      · cases h; omega
      · cases h
theorem makT_stays (l : List InstT) (id : Int) (k : Nat) (h : (makT l k id).isSome = true) : ∀ d, makT l (k + d) id = makT l k id
  | 0 => rfl
  | d + 1 => by
    have ih := makT_stays l id k h d
    rw [show k + (d + 1) = (k + d) + 1 by omega, makT, ih, if_pos h]
theorem makT_zero (l : List InstT) : ∀ k, makT l k 0 = none
  | 0 => rfl
  | k + 1 => by rw [makT, makT_zero l k]; simp

theorem zeroI64 (w : World) : (zeroValue 3).run Try.prog w = .ok (.int .i64 0) w := by kernel_rfl

set_option maxHeartbeats 8000000 in
theorem makersOf_any (a : Option Addr) (n c : Nat) (l : List InstT) (w : World) (hv : InstsV w a l) (hok : InstsOk l) (hl : l.length = n) (hn : 40 * n ≤ 140737488351232) :
    Calls Try.prog 32 #[.slice a n c] w fun e w' => ∃ b, e = .returned (.map (some b)) ∧ w.heap.size ≤ b ∧ MapU w' 3 .i64 b n (makT l n) ∧ Below w.heap.size w w' := by
  have HV := hide hv
  have HOK := hide hok
  have HL := hide hl
  have HN : Hid (40 * n ≤ 140737488351232) := hn
  have hmm := @run_makeMap Try.prog
  have HM0 := hide (MapU.made w 3 .i64)
  have HB0 := hide ((Below.refl _ w).alloc (Nat.le_refl _) (.map #[] 0))
  have HTT := hide Try.underlying67
  have HTE := hide Try.underlying3
  clear hv hok hl hn
  go_enter Try.func32, Try.ntmps32
  go_wp2_with fail
  generalize w.alloc (.map #[] 0) = W0 at *
  go_loopw [11] (fun i wr => ∃ k : Nat, k ≤ n ∧ i = .int .i64 k ∧ MapU wr 3 .i64 w.heap.size k (makT l k) ∧ Below w.heap.size w wr) (fun i _ => n - (intOf i).toNat)
  case atStart => exact ⟨0, Nat.zero_le _, rfl, HM0.out, HB0.out⟩
  case round =>
    obtain ⟨k, hk, rfl, hM, hB⟩ := hrel
    clear HM0 HB0 hmm
    have hA := HV.out.below hB
    have hkb : (k : Int) < 140737488351232 := by have := HN.out; omega
    by_cases hlt : k < n
    · have hkl : k < l.length := by rw [HL.out]; exact hlt
      obtain ⟨g1, o1, aj, cj, nj, rfl, hg1, p1, p2, p3, p4, p5, p6, p7⟩ := hA k hkl
      have hki : (k : Int) < (n : Int) := by omega
      have hk0 : (0 : Int) ≤ (k : Int) := by omega
      have hz := HOK.out k hkl
      have hr0 := hz.2.2.2.2.1
      have hr1 := hz.2.2.2.2.2.1
      have HSU : Hid (∀ id, makT l (k + 1) id = if (makT l k id).isSome = true then makT l k id else if (nthI l k).2.2.1 = id ∧ id ≠ 0 then some (k : Int) else none) := fun id => rfl
      have HBD : Hid ((k : Int) < 9223372036854775807 ∧ k < maxLen) := by have := HN.out; exact ⟨by omega, by unfold maxLen; omega⟩
      generalize nthI l k = z at *
      obtain ⟨zo, zt, zr, zl⟩ := z
      simp only at *
      have hba : Below wr.heap.size wr (wr.alloc (.cells #[.int .u16 zo, .int .u32 zt, .int .u32 zr, .slice aj nj cj] 37)) := (Below.refl _ wr).alloc (Nat.le_refl _) _
      have HM2 := hide (hM.below hba)
      have HB2 := hide (hB.trans (hba.mono hB.size))
      have HR := hide (And.intro hr0 hr1)
      by_cases hz0 : zr = 0
      · subst hz0
        have HE : Hid (∀ id, makT l k id = makT l (k + 1) id) := fun id => by
          rw [HSU.out id]
          by_cases h : (makT l k id).isSome = true
          · rw [if_pos h]
          · rw [if_neg h, if_neg (by rintro ⟨rfl, h2⟩; exact h2 rfl)]; simpa using h
        clear hA hM hB p5 p6 p7 hz HSU
        go_wp2_with fail
        go_roundw
        case rel => exact ⟨k + 1, by omega, by go_num, (HM2.out.congr HE.out).mono (Nat.le_succ _), HB2.out⟩
        case measure => simp [intOf]; omega
      · have hz0' : (zr == 0) = false := by simpa using hz0
        have hlz : wr.heap.size < (wr.alloc (.cells #[.int .u16 zo, .int .u32 zt, .int .u32 zr, .slice aj nj cj] 37)).heap.size := by simp
        have r2 : (wr.alloc (.cells #[.int .u16 zo, .int .u32 zt, .int .u32 zr, .slice aj nj cj] 37)).cell? ⟨wr.heap.size, 2, none⟩ = some (.int .u32 zr) := (one_block (heap_alloc_new wr (.cells #[.int .u16 zo, .int .u32 zt, .int .u32 zr, .slice aj nj cj] 37))).1 2
        have HR2 := hide r2
        by_cases hs : (makT l k zr).isSome = true
        · have HE : Hid (∀ id, makT l k id = makT l (k + 1) id) := fun id => by
            rw [HSU.out id]
            by_cases h : (makT l k id).isSome = true
            · rw [if_pos h]
            · rw [if_neg h, if_neg (by rintro ⟨rfl, h2⟩; exact h hs)]; simpa using h
          clear hA hM hB p5 p6 p7 hz HSU r2
          go_wp2_with (at_lookup; refine wpList_lookU_ok rfl _ _ 67 rfl 3 .i64 HTT.out HTE.out (zeroI64 _) w.heap.size k (makT l k) rfl HM2.out zr rfl HR.out.1 HR.out.2 ?_; rw [hs])
          go_roundw
          case rel => exact ⟨k + 1, by omega, by go_num, (HM2.out.congr HE.out).mono (Nat.le_succ _), HB2.out⟩
          case measure => simp [intOf]; omega
        · have hs' : (makT l k zr).isSome = false := by simpa using hs
          have HE : Hid (∀ id, (if id = zr then some (k : Int) else makT l k id) = makT l (k + 1) id) := fun id => by
            rw [HSU.out id]
            by_cases e : id = zr
            · subst e; rw [if_pos rfl, if_neg hs, if_pos ⟨rfl, hz0⟩]
            · rw [if_neg e]
              by_cases h : (makT l k id).isSome = true
              · rw [if_pos h]
              · rw [if_neg h, if_neg (by rintro ⟨rfl, _⟩; exact e rfl)]; simpa using h
          clear hA hM hB p5 p6 p7 hz HSU hs
          have hwf : (Lit.int .i64 (k : Int)).wf = true := WalkArith.wf_i64 (by have := HBD.out.1; omega)
          have HWF := hide hwf
          clear hwf
          go_wp2_with (first | (at_lookup; refine wpList_lookU_ok rfl _ _ 67 rfl 3 .i64 HTT.out HTE.out (zeroI64 _) w.heap.size k (makT l k) rfl HM2.out zr rfl HR.out.1 HR.out.2 ?_; rw [hs']) | (at_mapUpdate; refine wpList_putU rfl _ _ _ 67 rfl 3 .i64 HTT.out HTE.out w.heap.size k (makT l k) rfl HM2.out HBD.out.2 zr (k : Int) rfl HR.out.1 HR.out.2 rfl HWF.out ?_; intro w5 hM5 hg5) | go_in)
          have HB5 := hide (HB2.out.grown hg5 HB2.out.size (fun j hj => by cases hj; exact Nat.le_refl _))
          have HM5 := hide (hM5.congr HE.out)
          clear hM5 hg5
          go_wp2_with fail
          go_roundw
          case rel => exact ⟨k + 1, by omega, by go_num, HM5.out, HB5.out⟩
          case measure => simp [intOf]; omega
    · obtain rfl : k = n := by omega
      have HM := hide hM
      have HB := hide hB
      clear hA hM hB
      go_wp2_with fail
      go_ret
      exact ⟨w.heap.size, rfl, Nat.le_refl _, HM.out, HB.out⟩

set_option maxHeartbeats 4000000 in
theorem refMaker_any (a : Option Addr) (n c : Nat) (l : List InstT) (id : Int) (to : Nat) (w : World) (hv : InstsV w a l) (hl : l.length = n) (hn : n ≤ 140737488351232) (ht : to ≤ n) :
    Calls Try.prog 36 #[.slice a n c, .int .u32 id, .int .i64 to] w fun e w' => e = .returned (.int .i64 (makV l to id)) ∧ w = w' := by
  have HV := hide hv
  have HL := hide hl
  unfold makV
  clear hv hl
  go_enter Try.func36, Try.ntmps36
  go_wp2_with fail
  go_loopw [7] (fun i wr => ∃ k : Nat, k ≤ to ∧ i = .int .i64 k ∧ makT l k id = none ∧ w = wr) (fun i _ => to - (intOf i).toNat)
  case atStart => exact ⟨0, Nat.zero_le _, rfl, rfl, rfl⟩
  case round =>
    obtain ⟨k, hk, rfl, hM, rfl⟩ := hrel
    have HM := hide hM
    clear hM
    by_cases hlt : k < to
    · have hkl : k < l.length := by rw [HL.out]; omega
      obtain ⟨g1, o1, aj, cj, nj, rfl, hg1, p1, p2, p3, p4, p5, p6, p7⟩ := HV.out k hkl
      have hki : (k : Int) < (n : Int) := by omega
      have hkt : (k : Int) < (to : Int) := by omega
      have hk0 : (0 : Int) ≤ (k : Int) := by omega
      have HSU : Hid (makT l (k + 1) id = if (nthI l k).2.2.1 = id ∧ id ≠ 0 then some (k : Int) else none) := by show _ = _; rw [makT, HM.out]; rfl
      have HST : Hid ((makT l (k + 1) id).isSome = true → makT l to id = makT l (k + 1) id) := fun h => by have := makT_stays l id (k + 1) h (to - (k + 1)); rwa [show k + 1 + (to - (k + 1)) = to by omega] at this
      generalize (nthI l k).2.2.1 = zr at *
      clear p1 p2 p4 p5 p6 p7
      by_cases he : zr = id ∧ id ≠ 0
      · obtain ⟨rfl, h0⟩ := he
        have h0' : (zr != 0) = true := by simpa using h0
        have h1' : (zr == zr) = true := by simp
        have HRE : Hid ((makT l to zr).getD (-1) = (k : Int)) := by
          have e := HSU.out
          rw [if_pos ⟨rfl, h0⟩] at e
          show _ = _
          rw [HST.out (by rw [e]; rfl), e]; rfl
        clear HSU HST h0
        go_wp2_with fail
        go_ret
        exact ⟨by rw [HRE.out]; rfl, rfl⟩
      · have HRE : Hid (makT l (k + 1) id = none) := by show _ = _; rw [HSU.out, if_neg he]
        by_cases h1 : zr = id
        · subst h1
          have h0 : zr = 0 := by
            by_cases h : zr = 0
            · exact h
            · exact absurd ⟨rfl, h⟩ he
          subst h0
          clear HSU HST he
          go_wp2_with fail
          go_roundw
          case rel => exact ⟨k + 1, by omega, by go_num, HRE.out, by first | rfl | trivial⟩
          case measure => simp [intOf]; omega
        · have h1' : (zr == id) = false := by simpa using h1
          clear HSU HST he h1
          go_wp2_with fail
          go_roundw
          case rel => exact ⟨k + 1, by omega, by go_num, HRE.out, by first | rfl | trivial⟩
          case measure => simp [intOf]; omega
    · obtain rfl : k = to := by omega
      have HRE : Hid ((makT l k id).getD (-1) = -1) := by show _ = _; rw [HM.out]; rfl
      clear HM
      go_wp2_with fail
      go_ret
      exact ⟨by rw [HRE.out]; rfl, rfl⟩

end Go.Proofs.Ytckhgdjcofpijab

/-
  Whether ids are made, and where: in plain mathematics.
-/
namespace Go.Proofs.Ytckhgdjcofpijab
open Go.RowKit
set_option linter.unusedVariables false
set_option linter.unusedSimpArgs false

/-- Are all ids made among the first k? -/
def allMade (l : List InstT) (k : Nat) (zs : List Int) : Bool := zs.all fun id => (makT l k id).isSome
/-- What is wrong with the ids at a place. -/
def faultAt (l : List InstT) (k : Nat) : Int :=
  if (makT l k (nthI l k).2.2.1).isSome = true then 90
  else if allMade l l.length (idsI (nthI l k)) = false then 91
  else if partI (nthI l k) = 7 ∧ allMade l k (idsI (nthI l k)) = false then 92 else 0
def idsF (l : List InstT) : Nat → Nat → Int × Nat
  | 0, _ => (0, 0)
  | m + 1, k => if faultAt l k ≠ 0 then (faultAt l k, k) else idsF l m (k + 1)
/-- What is wrong with a module's ids. -/
def idsE (b : Int) (l : List InstT) : Int × Nat := if (layE b l).1 ≠ 0 then layE b l else idsF l l.length 0
theorem idsF_ok {l : List InstT} : ∀ (j m k : Nat), (∀ i, i < j → faultAt l (k + i) = 0) → idsF l (j + m) k = idsF l m (k + j)
  | 0, m, k, _ => by rw [Nat.zero_add, Nat.add_zero]
  | j + 1, m, k, h => by
    have h0 := h 0 (by omega)
    rw [Nat.add_zero] at h0
    rw [show j + 1 + m = (j + m) + 1 by omega, idsF, if_neg (by rw [h0]; simp), idsF_ok j m (k + 1) (fun i hi => by have := h (i + 1) (by omega); rw [show k + 1 + i = k + (i + 1) by omega]; exact this)]
    congr 1; omega
theorem idsF_at {l : List InstT} {k : Nat} (hk : k < l.length) (hok : ∀ i, i < k → faultAt l i = 0) (hf : faultAt l k ≠ 0) : idsF l l.length 0 = (faultAt l k, k) := by
  have e := idsF_ok k (l.length - k) 0 (fun i hi => by rw [Nat.zero_add]; exact hok i hi)
  rw [show k + (l.length - k) = l.length by omega, Nat.zero_add] at e
  rw [e, show l.length - k = (l.length - k - 1) + 1 by omega, idsF, if_pos hf]
theorem idsF_done {l : List InstT} (hok : ∀ i, i < l.length → faultAt l i = 0) : idsF l l.length 0 = (0, 0) := by
  have e := idsF_ok l.length 0 0 (fun i hi => by rw [Nat.zero_add]; exact hok i hi)
  rw [Nat.add_zero] at e
  rw [e]; rfl

theorem makT_cut {l : List InstT} {id p : Int} : ∀ {n k : Nat}, k ≤ n → makT l n id = some p → p < k → makT l k id = some p
  | 0, k, hk, h, _ => by cases h
  | n + 1, k, hk, h, hp => by
    by_cases e : k = n + 1
    · rw [e]; exact h
    · rw [makT] at h
      split at h
      · exact makT_cut (by omega) h hp
      · split at h
        · cases h; omega
        · cases h
/-- The first maker stands ahead of a place just if there is one ahead. -/
theorem makT_ahead {l : List InstT} {id p : Int} {n k : Nat} (hk : k ≤ n) (h : makT l n id = some p) : (makT l k id).isSome = decide (p < (k : Int)) := by
  by_cases hp : p < (k : Int)
  · rw [makT_cut hk h hp]; simp [hp]
  · cases hm : makT l k id with
    | none => simp [hp]
    | some q =>
      have h1 := makT_stays l id k (by rw [hm]; rfl) (n - k)
      rw [show k + (n - k) = n by omega, hm, h] at h1
      cases h1
      have := (makT_some l id k p hm).2
      exact absurd this hp
theorem makT_own {l : List InstT} {k : Nat} (hk : k < l.length) (h0 : (nthI l k).2.2.1 ≠ 0) : ∃ p, makT l l.length (nthI l k).2.2.1 = some p := by
  have h1 : (makT l (k + 1) (nthI l k).2.2.1).isSome = true := by
    rw [makT]
    split
    · assumption
    · rw [if_pos ⟨rfl, h0⟩]; rfl
  have h2 := makT_stays l _ (k + 1) h1 (l.length - (k + 1))
  rw [show k + 1 + (l.length - (k + 1)) = l.length by omega] at h2
  obtain ⟨p, hp⟩ := Option.isSome_iff_exists.1 h1
  exact ⟨p, by rw [h2, hp]⟩

theorem okTo_sorted {l : List InstT} {n i j : Nat} (h : okTo l n) (hij : i ≤ j) (hj : j < n) : partI (nthI l i) ≤ partI (nthI l j) := by
  by_cases e : i = j
  · rw [e]; exact Int.le_refl _
  · have hm := h j hj
    rcases Int.lt_or_le (partI (nthI l j)) (partI (nthI l i)) with h1 | h1
    · rw [mayL_over (by omega) h1] at hm; cases hm
    · exact h1
theorem cntP_le_of {l : List InstT} {p : Nat} : ∀ {n k : Nat}, k ≤ n → (∀ j, k ≤ j → j < n → (p : Int) ≤ partI (nthI l j)) → cntP l p n ≤ k
  | 0, k, hk, _ => by rw [cntP]; omega
  | n + 1, k, hk, h => by
    by_cases e : k = n + 1
    · have := cntP_le l p (n + 1); omega
    · have := cntP_le_of (n := n) (k := k) (by omega) (fun j h1 h2 => h j h1 (by omega))
      rw [cntP_more (h n (by omega) (by omega))]; exact this
theorem cntP_ge_of {l : List InstT} {p : Nat} : ∀ {n k : Nat}, k ≤ n → (∀ j, j < k → partI (nthI l j) < p) → k ≤ cntP l p n
  | 0, k, hk, _ => by omega
  | n + 1, k, hk, h => by
    by_cases e : k = n + 1
    · subst e; rw [cntP_all h]; exact Nat.le_refl _
    · have := cntP_ge_of (n := n) (k := k) (by omega) h
      rw [cntP]; omega
theorem span_part {l : List InstT} {n k p : Nat} (h : okTo l n) (hk : k < n) : (cntP l p n ≤ k ↔ (p : Int) ≤ partI (nthI l k)) := by
  constructor
  · intro h1
    rcases Int.lt_or_le (partI (nthI l k)) p with h2 | h2
    · have := cntP_ge_of (l := l) (p := p) (n := n) (k := k + 1) (by omega) (fun j hj => by have := okTo_sorted h (show j ≤ k by omega) hk; omega)
      omega
    · exact h2
  · intro h1
    exact cntP_le_of (by omega) (fun j hj hj2 => by have := okTo_sorted h hj hj2; omega)
theorem layE_ok {b : Int} {l : List InstT} (h : (layE b l).1 = 0) : okTo l l.length ∧ (shapeE b l).1 = 0 ∧ layE b l = (0, 0) := by
  unfold layE at h ⊢
  by_cases h1 : (shapeE b l).1 = 0
  · rw [if_neg (by simpa using h1)] at h ⊢
    have key : ∀ m k, k + m = l.length → okTo l k → (layF l m k).1 = 0 → okTo l l.length ∧ layF l m k = (0, 0) := by
      intro m
      induction m with
      | zero =>
        intro k hk hok h0
        rw [layF] at h0 ⊢
        cases hO : openE l with
        | true => rw [hO] at h0; simp at h0
        | false => rw [show l.length = k by omega]; exact ⟨hok, rfl⟩
      | succ m ih =>
        intro k hk hok h0
        rw [layF] at h0 ⊢
        cases hm : mayL l k with
        | false => rw [hm] at h0; simp at h0
        | true =>
          rw [hm, if_pos rfl] at h0
          rw [if_pos rfl]
          exact ih (k + 1) (by omega) (hok.snoc hm) h0
    obtain ⟨q1, q2⟩ := key l.length 0 (by omega) (okTo_zero l) h
    exact ⟨q1, h1, q2⟩
  · rw [if_pos h1] at h; exact absurd h h1
theorem idsA_range {x : InstT} (h : InstOk x) : ∀ id ∈ idsI x, 0 ≤ id ∧ id < 4294967296 := by
  obtain ⟨_, _, h1, h2, _, _, h3, _⟩ := h
  intro id hid
  unfold idsI idsTo at hid
  rw [List.take_length] at hid
  rcases List.mem_append.1 hid with h | h
  · split at h
    · cases h
    · rw [List.mem_singleton] at h; subst h; exact ⟨h1, h2⟩
  · obtain ⟨y, hy, hi⟩ := List.mem_flatMap.1 h
    obtain ⟨j, hj, rfl⟩ := List.getElem_of_mem hy
    have hk := h3 j hj
    rw [show nthA x.2.2.2 j = x.2.2.2[j] by simp [nthA, List.getD, hj]] at hk
    unfold idsA at hi
    split at hi
    · rw [List.mem_singleton] at hi; subst hi; exact ⟨hk.2.2.1, hk.2.2.2.1⟩
    · cases hi
/-- What the loop over the ids of a place has found, with the first j of them. -/
def aheadJ (l : List InstT) (k j : Nat) : Bool := decide (partI (nthI l k) = 7) && !allMade l k ((idsI (nthI l k)).take j)
theorem allMade_snoc (l : List InstT) (k : Nat) (zs : List Int) (j : Nat) (hj : j < zs.length) : allMade l k (zs.take (j + 1)) = (allMade l k (zs.take j) && (makT l k (nth zs j)).isSome) := by
  unfold allMade
  rw [List.take_add_one, List.all_append, List.getElem?_eq_getElem hj]
  simp [nth, List.getD, hj]
theorem fault_first {l : List InstT} {k : Nat} (h : (makT l k (nthI l k).2.2.1).isSome = true) : faultAt l k = 90 := by unfold faultAt; rw [if_pos h]
theorem allMade_false {l : List InstT} {k : Nat} {zs : List Int} {j : Nat} (hj : j < zs.length) (h : (makT l k (nth zs j)).isSome = false) : allMade l k zs = false := by
  unfold allMade
  rw [List.all_eq_false]
  refine ⟨nth zs j, ?_, by rw [h]; simp⟩
  simp only [nth, List.getD, List.getElem?_eq_getElem hj]
  exact List.getElem_mem hj
theorem fault_unknown {l : List InstT} {k j : Nat} (h : (makT l k (nthI l k).2.2.1).isSome = false) (hj : j < (idsI (nthI l k)).length) (hn : (makT l l.length (nth (idsI (nthI l k)) j)).isSome = false) : faultAt l k = 91 := by
  unfold faultAt; rw [if_neg (by rw [h]; simp), if_pos (allMade_false hj hn)]
theorem faultAt_end {l : List InstT} {k : Nat} (h : (makT l k (nthI l k).2.2.1).isSome = false) (hall : allMade l l.length ((idsI (nthI l k)).take (idsI (nthI l k)).length) = true) : faultAt l k = if aheadJ l k (idsI (nthI l k)).length = true then 92 else 0 := by
  rw [List.take_length] at hall
  unfold faultAt aheadJ
  rw [if_neg (by rw [h]; simp), if_neg (by rw [hall]; simp), List.take_length]
  by_cases h7 : partI (nthI l k) = 7 <;> cases allMade l k (idsI (nthI l k)) <;> simp [h7]
end Go.Proofs.Ytckhgdjcofpijab

/-
  Check, Parts and Cut of the package layout.
-/
namespace Go.Proofs.Ytckhgdjcofpijab
open Go.RowKit
set_option linter.unusedVariables false
set_option linter.unusedSimpArgs false
set_option maxRecDepth 10000

/-- What a walk over a module leaves, as Check, Parts and Cut keep it: the walk in one box, the spot in another. -/
theorem kept_walk (w W0 w1 : World) (hb0 : Below w.heap.size w W0) (hb1 : Below W0.heap.size W0 w1) (ins fv : Value) (ps : Nat → Int) (k pt kd e1 e2 : Int) :
    let W2 := (w1.alloc (.cells #[.slice none 0 0, .int .i64 0, .int .i64 0, .int .i64 0, .int .i64 0, .int .i64 0, .int .i64 0, .int .i64 0, .int .i64 0, .int .i64 0, .int .i64 0, .int .i64 0, .int .i64 0, .int .i64 0, .int .i64 0, .int .i64 0, .int .i64 0, .int .i64 0, .int .i64 0, .int .i64 0, .int .i64 0, .slice none 0 0, .int .i64 0, .int .u8 0, .int .u16 0] 46)).alloc (.cells #[.int .i64 0, .int .i64 0] 28)
    let X := W2.setCells w1.heap.size 0 [ins, .int .i64 (ps 0), .int .i64 (ps 1), .int .i64 (ps 2), .int .i64 (ps 3), .int .i64 (ps 4), .int .i64 (ps 5), .int .i64 (ps 6), .int .i64 (ps 7), .int .i64 (ps 8), .int .i64 (ps 9), .int .i64 (ps 10), .int .i64 (ps 11), .int .i64 (ps 12), .int .i64 (ps 13), .int .i64 (ps 14), .int .i64 (ps 15), .int .i64 (ps 16), .int .i64 (ps 17), .int .i64 (ps 18), .int .i64 (ps 19), fv, .int .i64 k, .int .u8 pt, .int .u16 kd]
    W2.there w1.heap.size 0 25 ∧ X.heap[w1.heap.size]? = some (.cells #[ins, .int .i64 (ps 0), .int .i64 (ps 1), .int .i64 (ps 2), .int .i64 (ps 3), .int .i64 (ps 4), .int .i64 (ps 5), .int .i64 (ps 6), .int .i64 (ps 7), .int .i64 (ps 8), .int .i64 (ps 9), .int .i64 (ps 10), .int .i64 (ps 11), .int .i64 (ps 12), .int .i64 (ps 13), .int .i64 (ps 14), .int .i64 (ps 15), .int .i64 (ps 16), .int .i64 (ps 17), .int .i64 (ps 18), .int .i64 (ps 19), fv, .int .i64 k, .int .u8 pt, .int .u16 kd] 46 (0, 0)) ∧ X.heap[w1.heap.size + 1]? = some (.cells #[.int .i64 0, .int .i64 0] 28 (0, 0)) ∧ Below W0.heap.size W0 X ∧ w1.heap.size + 1 < X.heap.size ∧ w1.grownBy X none := by
  intro W2 X
  have h1 : W2.heap[w1.heap.size]? = some (.cells #[.slice none 0 0, .int .i64 0, .int .i64 0, .int .i64 0, .int .i64 0, .int .i64 0, .int .i64 0, .int .i64 0, .int .i64 0, .int .i64 0, .int .i64 0, .int .i64 0, .int .i64 0, .int .i64 0, .int .i64 0, .int .i64 0, .int .i64 0, .int .i64 0, .int .i64 0, .int .i64 0, .int .i64 0, .slice none 0 0, .int .i64 0, .int .u8 0, .int .u16 0] 46 (0, 0)) := by
    show (World.alloc _ _).heap[_]? = _
    rw [Below.heap_alloc _ _ _ (by simp)]; exact heap_alloc_new w1 _
  have h2 : W2.heap[w1.heap.size + 1]? = some (.cells #[.int .i64 0, .int .i64 0] 28 (0, 0)) := by
    have := heap_alloc_new (w1.alloc (.cells #[.slice none 0 0, .int .i64 0, .int .i64 0, .int .i64 0, .int .i64 0, .int .i64 0, .int .i64 0, .int .i64 0, .int .i64 0, .int .i64 0, .int .i64 0, .int .i64 0, .int .i64 0, .int .i64 0, .int .i64 0, .int .i64 0, .int .i64 0, .int .i64 0, .int .i64 0, .int .i64 0, .int .i64 0, .slice none 0 0, .int .i64 0, .int .u8 0, .int .u16 0] 46)) (.cells #[.int .i64 0, .int .i64 0] 28)
    rw [World.size_alloc] at this
    exact this
  have hg := setCells_grown w1.heap.size [ins, .int .i64 (ps 0), .int .i64 (ps 1), .int .i64 (ps 2), .int .i64 (ps 3), .int .i64 (ps 4), .int .i64 (ps 5), .int .i64 (ps 6), .int .i64 (ps 7), .int .i64 (ps 8), .int .i64 (ps 9), .int .i64 (ps 10), .int .i64 (ps 11), .int .i64 (ps 12), .int .i64 (ps 13), .int .i64 (ps 14), .int .i64 (ps 15), .int .i64 (ps 16), .int .i64 (ps 17), .int .i64 (ps 18), .int .i64 (ps 19), fv, .int .i64 k, .int .u8 pt, .int .u16 kd] 0 W2
  have hs : W2.heap.size = w1.heap.size + 2 := by show (World.alloc _ _).heap.size = _; simp
  have hb2 : Below w1.heap.size w1 W2 := ((Below.refl _ w1).alloc (Nat.le_refl _) _).alloc (by simp) _
  have hx : w1.grownBy X none := ⟨hg.os.trans hb2.os, hg.tape.trans hb2.tape, hg.output.trans hb2.output, Nat.le_trans hb2.size hg.size, fun i hi _ => (hg.block i (by omega) (by simp; omega)).trans (hb2.block i hi)⟩
  refine ⟨there_of_block h1 25 rfl, setCells_all [ins, .int .i64 (ps 0), .int .i64 (ps 1), .int .i64 (ps 2), .int .i64 (ps 3), .int .i64 (ps 4), .int .i64 (ps 5), .int .i64 (ps 6), .int .i64 (ps 7), .int .i64 (ps 8), .int .i64 (ps 9), .int .i64 (ps 10), .int .i64 (ps 11), .int .i64 (ps 12), .int .i64 (ps 13), .int .i64 (ps 14), .int .i64 (ps 15), .int .i64 (ps 16), .int .i64 (ps 17), .int .i64 (ps 18), .int .i64 (ps 19), fv, .int .i64 k, .int .u8 pt, .int .u16 kd] h1 rfl, (hg.block _ (by omega) (by simp)).trans h2, below_grown hb1 hx (fun g e => by cases e), Nat.lt_of_lt_of_le (show w1.heap.size + 1 < W2.heap.size by omega) hg.size, hx⟩

set_option maxHeartbeats 4000000 in
theorem layCheck_any (gen bnd : Int) (a : Option Addr) (n c : Nat) (l : List InstT) (w : World) (hv : InstsV w a l) (hok : InstsOk l) (hl : l.length = n) (hn : 40 * n ≤ 140737488351232) (g0 : 0 ≤ gen) (g1 : gen < 4294967296) (b0 : 0 ≤ bnd) (b1 : bnd < 4294967296) :
    Calls Try.prog 6 #[modV gen bnd a n c] w fun e w' => e = .returned (.agg #[.int .i64 (layE bnd l).1, .int .i64 (layE bnd l).2]) ∧ Below w.heap.size w w' := by
  have hb0 : Below w.heap.size w ((w.alloc (.cells #[.int .u32 gen, .int .u32 bnd, .slice a n c] 25)).alloc (.cells #[.int .i64 0, .int .i64 0] 28)) := ((Below.refl _ w).alloc (Nat.le_refl _) _).alloc (by simp) _
  have hC := walkOver_any gen bnd a n c l _ (hv.below hb0) hok hl hn g0 g1 b0 b1
  have HSB : Hid (((w.alloc (.cells #[.int .u32 gen, .int .u32 bnd, .slice a n c] 25)).alloc (.cells #[.int .i64 0, .int .i64 0] 28)).heap[w.heap.size + 1]? = some (.cells #[.int .i64 0, .int .i64 0] 28 (0, 0))) := by
    have := heap_alloc_new (w.alloc (.cells #[.int .u32 gen, .int .u32 bnd, .slice a n c] 25)) (.cells #[.int .i64 0, .int .i64 0] 28)
    show _ = _
    simpa using this
  have HLT : Hid (w.heap.size + 1 < ((w.alloc (.cells #[.int .u32 gen, .int .u32 bnd, .slice a n c] 25)).alloc (.cells #[.int .i64 0, .int .i64 0] 28)).heap.size) := by show _ < _; simp
  have HB0 := hide hb0
  unfold WalkQ at hC
  generalize layE bnd l = L at *
  obtain ⟨e1, e2⟩ := L
  unfold modV at *
  clear hb0 hv hok hl
  go_enter Try.func6, Try.ntmps6
  go_wp2_with fail
  generalize (w.alloc (.cells #[.int .u32 gen, .int .u32 bnd, .slice a n c] 25)).alloc (.cells #[.int .i64 0, .int .i64 0] 28) = W0 at *
  refine hC.mono ?_
  rintro e w1 ⟨ins, fv, ps, k, pt, kd, rfl, hb1, hone, hfs⟩
  clear hC hfs
  unfold walkV
  obtain ⟨k1, k2, k3, k4, k5, _⟩ := kept_walk w W0 w1 HB0.out hb1 ins fv ps k pt kd 0 0
  have HK1 := hide k1
  have HK2 := hide k2
  have HK3 := hide k3
  have HK4 := hide k4
  have HK5 := hide k5
  have hw1 : W0.heap.size ≤ w1.heap.size := hb1.size
  clear k1 k2 k3 k4 k5 hb1
  simp only
  go_wp2_with (with_reducible refine stopS 46 ?_)
  refine wpList_store_mid rfl 46 (.tmp 3) (.tmp 8) rfl w1.heap.size 0 #[ins, .int .i64 (ps 0), .int .i64 (ps 1), .int .i64 (ps 2), .int .i64 (ps 3), .int .i64 (ps 4), .int .i64 (ps 5), .int .i64 (ps 6), .int .i64 (ps 7), .int .i64 (ps 8), .int .i64 (ps 9), .int .i64 (ps 10), .int .i64 (ps 11), .int .i64 (ps 12), .int .i64 (ps 13), .int .i64 (ps 14), .int .i64 (ps 15), .int .i64 (ps 16), .int .i64 (ps 17), .int .i64 (ps 18), .int .i64 (ps 19), fv, .int .i64 k, .int .u8 pt, .int .u16 kd] rfl rfl HK1.out (by kernel_rfl) (by simp [hone.1, hone.2]; simp [Value.oneCell']) ?_
  simp only [Act.put]
  generalize ((w1.alloc (.cells #[.slice none 0 0, .int .i64 0, .int .i64 0, .int .i64 0, .int .i64 0, .int .i64 0, .int .i64 0, .int .i64 0, .int .i64 0, .int .i64 0, .int .i64 0, .int .i64 0, .int .i64 0, .int .i64 0, .int .i64 0, .int .i64 0, .int .i64 0, .int .i64 0, .int .i64 0, .int .i64 0, .int .i64 0, .slice none 0 0, .int .i64 0, .int .u8 0, .int .u16 0] 46)).alloc (.cells #[.int .i64 0, .int .i64 0] 28)).setCells w1.heap.size 0 [ins, .int .i64 (ps 0), .int .i64 (ps 1), .int .i64 (ps 2), .int .i64 (ps 3), .int .i64 (ps 4), .int .i64 (ps 5), .int .i64 (ps 6), .int .i64 (ps 7), .int .i64 (ps 8), .int .i64 (ps 9), .int .i64 (ps 10), .int .i64 (ps 11), .int .i64 (ps 12), .int .i64 (ps 13), .int .i64 (ps 14), .int .i64 (ps 15), .int .i64 (ps 16), .int .i64 (ps 17), .int .i64 (ps 18), .int .i64 (ps 19), fv, .int .i64 k, .int .u8 pt, .int .u16 kd] = X at *
  obtain ⟨cs, fs⟩ := one_block HK3.out
  have s0 := cs 0
  have s1 := cs 1
  have kr := (HK4.out.block (w.heap.size + 1) HLT.out).trans HSB.out
  obtain ⟨cr, fr⟩ := one_block kr
  have r0 := cr 0
  have r1 := cr 1
  have hl0 := HLT.out
  have hlx := HK5.out
  have ne1 : w1.heap.size + 1 ≠ w.heap.size + 1 := by omega
  clear cs cr
  have hg1 := setCells_grown (w1.heap.size + 1) [.int .i64 e1, .int .i64 e2] 0 X
  have hg2 := setCells_grown (w.heap.size + 1) [.int .i64 e1, .int .i64 e2] 0 (X.setCells (w1.heap.size + 1) 0 [.int .i64 e1, .int .i64 e2])
  have HP2 := hide (setCells_all (w := X.setCells (w1.heap.size + 1) 0 [.int .i64 e1, .int .i64 e2]) [.int .i64 e1, .int .i64 e2] ((hg1.block (w.heap.size + 1) (by have := HK4.out.size; omega) (by simp; omega)).trans kr) rfl)
  have HBF := hide (below_grown (below_grown (HB0.out.trans (HK4.out.mono HB0.out.size)) hg1 (fun g e => by simp at e; omega)) hg2 (fun g e => by simp at e; omega))
  clear hg1 hg2 kr
  go_wp2_with fail
  show bodyPost _ _ _ _ _ ((X.setCells (w1.heap.size + 1) 0 [.int .i64 e1, .int .i64 e2]).setCells (w.heap.size + 1) 0 [.int .i64 e1, .int .i64 e2])
  generalize (X.setCells (w1.heap.size + 1) 0 [.int .i64 e1, .int .i64 e2]).setCells (w.heap.size + 1) 0 [.int .i64 e1, .int .i64 e2] = Z at *
  have r6 := run_loadVar_mid (P := Try.prog) Z (w.heap.size + 1) 0 28 [.int .i64 e1, .int .i64 e2] _ (range_of_block HP2.out) Try.underlying28 rfl (by kernel_rfl)
  refine bodyPost_ret (v := .agg #[.int .i64 e1, .int .i64 e2]) ?_ rfl ⟨rfl, HBF.out⟩
  simp only [results, Try.results6, List.mapM_toArray, List.mapM_cons, List.mapM_nil, asAddr, Sem.run_bind, Sem.run_pure, Result.andThen_ok, bind_assoc, pure_bind, Sem.run_map, map_pure, Array.getD_eq_getD_getElem?, List.getElem?_toArray, List.getElem?_cons_succ, List.getElem?_cons_zero, Option.getD_some, r6]
  rfl

end Go.Proofs.Ytckhgdjcofpijab
