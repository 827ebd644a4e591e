/-
  Texts laid together in one: Law04Own, KitCopyBytes, KitBytes, MathE, LawCodeDecodes.
-/
import Derived.WalkSpells
import Derived.WalkMore
import Derived.BigRegion
import Derived.Deep.AppendLies
import Derived.Deep.QuietTactic
import Derived.BigQuiet
import Derived.Test.YteafjokpkljfcaaGreatProg
import Derived.Test.YteafjokpkljfcaaGreatB10
import Derived.Test.YteafjokpkljfcaaGreatB01
import Derived.Test.YteafjokpkljfcaaGreatB03
import Derived.Test.YteafjokpkljfcaaGreatB24
import Derived.Test.YteafjokpkljfcaaGreatB16
import Derived.Test.YteafjokpkljfcaaGreatB14
import Derived.Test.YteafjokpkljfcaaGreatB17
import Derived.Test.YteafjokpkljfcaaGreatB25
/-
  The law's own: writes over the arguments of each instruction, one by one, and behind them; each instruction is as it was when its turn comes.
-/
namespace Go.Proofs.YteafjokpkljfcaaGreat
open Go.RowKit
set_option linter.unusedVariables false
set_option linter.unusedSimpArgs false
set_option maxRecDepth 10000

theorem ArgI4.info : (Tryz.prog.info? 58).map (fun i => (i.zero, i.size, i.bytes)) = some (some (.agg #[.int .u8 0, .int .u32 0, .string ⟨#[]⟩]), 3, 24) := by kernel_rfl
theorem own_set4 {w : World} {lo e size n g cap : Nat} {xs : List Value} (h : w.ownsRow lo e size (.slice (some ⟨g, 0, none⟩) n cap) n xs) (i : Nat) (u : Value) : (w.setCell ⟨g, i, none⟩ u).ownsRow lo e size (.slice (some ⟨g, 0, none⟩) n cap) n (xs.set i u) := by
  refine ⟨by rw [List.length_set]; exact h.1, .inr ?_⟩
  rcases h.2 with ⟨h1, _⟩ | ⟨g', cap', cur, e1, h2, h3, h4, h5, h6, h7⟩
  · cases h1
  · cases e1
    refine ⟨g, cap, cur.setIfInBounds i u, rfl, h2, ?_, h4, h5, by simp [h6], ?_⟩
    · simp [World.setCell, Array.getElem?_modify, h3]
    · rw [Array.toList_setIfInBounds, List.take_set, h7]
theorem own_form4 {w : World} {lo e size n : Nat} {v : Value} {xs : List Value} (h : w.ownsRow lo e size v n xs) (hn : 0 < n) : ∃ g cap, v = .slice (some ⟨g, 0, none⟩) n cap ∧ lo ≤ g ∧ g < w.heap.size ∧ (∀ i, w.frozen? ⟨g, i, none⟩ = false) ∧ (∀ i, i < n * size → w.cell? ⟨g, i, none⟩ = xs[i]?) := by
  rcases h.2 with ⟨_, h1⟩ | ⟨g, cap, cur, e1, h2, h3, h4, h5, h6, h7⟩
  · omega
  · refine ⟨g, cap, e1, h2, (Array.getElem?_eq_some_iff.1 h3).1, fun i => by simp [World.frozen?, h3], fun i hi => ?_⟩
    rw [show w.cell? ⟨g, i, none⟩ = cur[i]? by simp [World.cell?, h3], ← h7, List.getElem?_take, if_pos hi]
    simp
theorem below_own4 {w0 w w' : World} {n0 : Nat} {ob : Option Nat} (h : Below n0 w0 w) (hn : n0 ≤ w.heap.size) (hg : w.grownBy w' ob) (hob : ∀ g, ob = some g → n0 ≤ g) : Below n0 w0 w' :=
  ⟨hg.os.trans h.os, hg.tape.trans h.tape, hg.output.trans h.output, Nat.le_trans h.size hg.size, fun k hk => (hg.block k (by omega) (fun e => by have := hob k e.symm; omega)).trans (h.block k hk)⟩

set_option maxHeartbeats 16000000 in
theorem own4_true (g1 b1 g2 b2 : Int) (ax ay : Option Addr) (m cx cy lo : Nat) (L : List InstT) (w0 w : World) (hO : OwnI w lo ax 0 L) (hlo : w0.heap.size ≤ lo) (hV : InstsV w0 ay L) (hb : Below w0.heap.size w0 w) (hok : InstsOk L) (hm : L.length = m) (hml : m ≤ 1048576) (hloc : lo ≤ w.heap.size) :
    Calls Tryz.prog 9 #[modV g1 b1 ax m cx, modV g2 b2 ay m cy] w fun e w' => e = .returned (.bool true) ∧ Below w0.heap.size w0 w' := by
  unfold modV
  have hba : Below w.heap.size w ((w.alloc (.cells #[.int .u32 g1, .int .u32 b1, .slice ax m cx] 26)).alloc (.cells #[.int .u32 g2, .int .u32 b2, .slice ay m cy] 26)) := ((Below.refl _ w).alloc (Nat.le_refl _) _).alloc (by simp) _
  have HO0 := hide (hO.below hba)
  have HBA := hide hba
  have HB0 := hide (hb.trans (hba.mono hb.size))
  have HX0 : Hid (((w.alloc (.cells #[.int .u32 g1, .int .u32 b1, .slice ax m cx] 26)).alloc (.cells #[.int .u32 g2, .int .u32 b2, .slice ay m cy] 26)).heap[w.heap.size]? = some (.cells #[.int .u32 g1, .int .u32 b1, .slice ax m cx] 26 (0, 0))) := (Below.heap_alloc _ _ _ (by simp)).trans (heap_alloc_new w _)
  have HY0 : Hid (((w.alloc (.cells #[.int .u32 g1, .int .u32 b1, .slice ax m cx] 26)).alloc (.cells #[.int .u32 g2, .int .u32 b2, .slice ay m cy] 26)).heap[w.heap.size + 1]? = some (.cells #[.int .u32 g2, .int .u32 b2, .slice ay m cy] 26 (0, 0))) := by
    have := heap_alloc_new (w.alloc (.cells #[.int .u32 g1, .int .u32 b1, .slice ax m cx] 26)) (.cells #[.int .u32 g2, .int .u32 b2, .slice ay m cy] 26)
    rw [World.size_alloc] at this
    exact this
  have HV := hide hV
  have HOK := hide hok
  have HM := hide hm
  have HOW0 : Hid (OwnI w lo ax 0 L) := hO
  have HXL : Hid (lo ≤ w.heap.size) := hloc
  obtain ⟨i0, hi, hz0, hz1, hz2⟩ := info_parts ArgI4.info
  have HI := hide (And.intro hi (And.intro hz0 (And.intro hz1 hz2)))
  clear hba hO hV hb hok hm hi hz0 hz1 hz2
  go_enter Tryz.func9, Tryz.ntmps9
  go_wp2_with fail
  generalize (w.alloc (.cells #[.int .u32 g1, .int .u32 b1, .slice ax m cx] 26)).alloc (.cells #[.int .u32 g2, .int .u32 b2, .slice ay m cy] 26) = W0 at *
  go_loopw [5] (fun i wr => ∃ k : Nat, k ≤ m ∧ i = .int .i64 k ∧ OwnI wr lo ax k L ∧ Below w0.heap.size w0 wr ∧ wr.heap[w.heap.size]? = some (.cells #[.int .u32 g1, .int .u32 b1, .slice ax m cx] 26 (0, 0)) ∧ wr.heap[w.heap.size + 1]? = some (.cells #[.int .u32 g2, .int .u32 b2, .slice ay m cy] 26 (0, 0)) ∧ (∀ b off, ax = some ⟨b, off, none⟩ → b < w.heap.size → wr.heap[b]? = w.heap[b]?)) (fun i _ => m - (intOf i).toNat)
  case atStart => exact ⟨0, Nat.zero_le _, rfl, HO0.out, HB0.out, HX0.out, HY0.out, fun b off _ h => HBA.out.block b h⟩
  case round =>
    obtain ⟨k, hk, rfl, hOk, hbk, hXk, hYk, hrow⟩ := hrel
    rename World => wo
    by_cases hlt : k < m
    · have hkl : k < L.length := by rw [HM.out]; exact hlt
      have HLT := hide hlt
      obtain ⟨b, off, aj, cj, nj, hax, hlob, hbl, c1, d1, d2, c2, c3, c4, c5, _⟩ := hOk k (Nat.le_refl _) hkl
      obtain ⟨b', off', aj', cj', nj', hax', _, hbl', _, _, _, c2', _, c4', _, _⟩ := HOW0.out k (Nat.zero_le _) hkl
      rw [hax] at hax'
      simp only [Option.some.injEq, Addr.mk.injEq, and_true] at hax'
      obtain ⟨rfl, rfl⟩ := hax'
      have hcw := (World.cell?_of_block (a := ⟨b, off + k * 4 + 3, none⟩) (hrow b off hax hbl')).trans c2'
      rw [c2] at hcw
      simp only [Option.some.injEq, Value.slice.injEq] at hcw
      obtain ⟨rfl, rfl, rfl⟩ := hcw
      have HGL : Hid (∀ g, Value.ownBlock (.slice aj nj cj) = some g → lo ≤ g ∧ g < w.heap.size) := fun g e => ⟨(c4.lt g e).1, (c4'.lt g e).2⟩
      obtain ⟨gy, oy, ay', cy', ny', hay, hgy, p1, p2, p3, p4, p5, p6, p7⟩ := (HV.out.below hbk) k hkl
      have hz := HOK.out k hkl
      have hzl := hz.2.2.2.2.2.2.2
      have HKI := hide fun (wx : World) (h : Below wo.heap.size wo wx) => kitInst_any (nthI L k) (nthI L k) aj ay' nj ny' cj cy' wx ((argsV_own c4 c3).below h) (p6.below h) c3 p5 (by omega) (by omega)
      have HOk := hide hOk
      have HBk := hide hbk
      have HXk := hide hXk
      have HYk := hide hYk
      have HROW := hide hrow
      have HC4 := hide c4
      have HC2 := hide c2
      have HC5 := hide c5
      have hXs : w.heap.size ≤ wo.heap.size := Nat.le_of_lt (Array.getElem?_eq_some_iff.1 hXk).1
      have hXl := (Array.getElem?_eq_some_iff.1 hXk).1
      have hYl := (Array.getElem?_eq_some_iff.1 hYk).1
      have x2 := fun s : InC (Below wo.heap.size wo) => s.cell (p := ⟨w.heap.size, 2, none⟩) hXl ((one_block hXk).1 2)
      have y2 := fun s : InC (Below wo.heap.size wo) => s.cell (p := ⟨w.heap.size + 1, 2, none⟩) hYl ((one_block hYk).1 2)
      have e1 := fun s : InC (Below wo.heap.size wo) => s.cell (p := ⟨b, off + k * 4, none⟩) hbl c1
      have e2 := fun s : InC (Below wo.heap.size wo) => s.cell (p := ⟨b, off + k * 4 + 1, none⟩) hbl d1
      have e3 := fun s : InC (Below wo.heap.size wo) => s.cell (p := ⟨b, off + k * 4 + 2, none⟩) hbl d2
      have e4 := fun s : InC (Below wo.heap.size wo) => s.cell (p := ⟨b, off + k * 4 + 3, none⟩) hbl c2
      have f1 := fun s : InC (Below wo.heap.size wo) => s.cell (p := ⟨gy, oy + k * 4, none⟩) hgy p1
      have f2 := fun s : InC (Below wo.heap.size wo) => s.cell (p := ⟨gy, oy + k * 4 + 1, none⟩) hgy p2
      have f3 := fun s : InC (Below wo.heap.size wo) => s.cell (p := ⟨gy, oy + k * 4 + 2, none⟩) hgy p3
      have f4 := fun s : InC (Below wo.heap.size wo) => s.cell (p := ⟨gy, oy + k * 4 + 3, none⟩) hgy p4
      have x2o := (one_block hXk).1 2
      have hk0 : (0 : Int) ≤ (k : Int) := by omega
      have hki : (k : Int) < (m : Int) := by omega
      have hI := fun s : InC (Below wo.heap.size wo) => Calls.inC s (HKI.out s.w s.ok)
      unfold instV at hI
      have hne : Nonempty (InC (Below wo.heap.size wo)) := ⟨⟨wo, Below.refl _ _⟩⟩
      have HNJ : Hid (24 * nj ≤ 140737488351232) := by show _ ≤ _; omega
      have HAX := hide hax
      rw [show decide (nthI L k = nthI L k) = true from decide_eq_true rfl] at hI
      subst hay
      clear hOk hbk hXk hYk hrow c1 d1 d2 c2 c3 c4 c5 c2' c4' p1 p2 p3 p4 p5 p6 p7 hz hzl
      rw [hax] at *
      generalize nthI L k = z at *
      obtain ⟨zo, zt, zr, zl⟩ := z
      simp only at *
      go_wp2_with fail
      refine wp_norm ?_
      refine wp_region_class (C := Below wo.heap.size wo) (by kernel_rfl) (by kernel_rfl) (below_drew wo) ?_
      repeat (go_big_quiet_step ((go_at_call 18; exact hI _)))
      refine wpQuiet_nil ?_
      rintro _ ⟨sv, rfl⟩
      have HVW := hide sv.ok
      have x2v := x2 sv
      have e4v := e4 sv
      clear hne x2 y2 e1 e2 e3 e4 f1 f2 f3 f4 hI x2o
      generalize sv.w = V at *
      rw [onNormal_normal]
      have hnj := HNJ.out
      go_wp2_with fail
      clear x2v e4v
      go_loopw [7] (fun i wq => ∃ (t : Nat) (xs : List Value), t ≤ nj ∧ i = .int .i64 t ∧ wq.ownsRow lo 58 3 (.slice aj nj cj) nj xs ∧ V.grownBy wq (Value.ownBlock (.slice aj nj cj))) (fun i _ => nj - (intOf i).toNat)
      case atStart => exact ⟨0, _, Nat.zero_le _, rfl, own_below HC4.out HVW.out, World.grownBy.refl _ _⟩
      case round =>
        obtain ⟨t, xs, ht, rfl, hOt, hGt⟩ := hrel
        have HGt := hide hGt
        by_cases hlt2 : t < nj
        · have ht0 : (0 : Int) ≤ (t : Int) := by omega
          have hti : (t : Int) < (nj : Int) := by omega
          obtain ⟨gq, cq, hVq, h1, h2, h4, h5⟩ := own_form4 hOt (by omega)
          injection hVq with hVa _ hVc
          subst hVa
          have hxl : xs.length = nj * 3 := hOt.1
          have z0 : wr.cell? ⟨gq, t * 3, none⟩ = some xs[t * 3] := by rw [h5 _ (by omega), List.getElem?_eq_getElem]
          have z1 : wr.cell? ⟨gq, t * 3 + 1, none⟩ = some xs[t * 3 + 1] := by rw [h5 _ (by omega), List.getElem?_eq_getElem]
          have z2 : wr.cell? ⟨gq, t * 3 + 2, none⟩ = some xs[t * 3 + 2] := by rw [h5 _ (by omega), List.getElem?_eq_getElem]
          have q0 := h4 (t * 3)
          have q1 := h4 (t * 3 + 1)
          have q2 := h4 (t * 3 + 2)
          have HO3 := hide (own_set4 (own_set4 (own_set4 hOt (t * 3) (.int .u8 9)) (t * 3 + 1) (.int .u32 99)) (t * 3 + 2) (.string ⟨#[]⟩))
          have HG3 := hide (hGt.trans ((grown_setCell wr gq (t * 3) (.int .u8 9)).trans ((grown_setCell _ gq (t * 3 + 1) (.int .u32 99)).trans (grown_setCell _ gq (t * 3 + 2) (.string ⟨#[]⟩)))))
          generalize xs[t * 3] = u0 at *
          generalize xs[t * 3 + 1] = u1 at *
          generalize xs[t * 3 + 2] = u2 at *
          clear hOt hGt h5 h4 hxl hVc
          go_wp2_with fail
          go_roundw
          case rel => exact ⟨t + 1, _, by omega, by go_num, HO3.out, HG3.out⟩
          case measure => simp [intOf]; omega
        · obtain rfl : t = nj := by omega
          have hloq : lo ≤ wr.heap.size := by have h1 := HVW.out.size; have h2 := hGt.size; have h3 := HXL.out; have h4 := hXs; omega
          have N1 : Hid ((wr.alloc (.cells #[.int .u8 9, .int .u32 99, .string ⟨#[]⟩] 58)).ownsRow lo 58 3 (.slice aj t cj) t xs) := own_below hOt ((Below.refl _ wr).alloc (Nat.le_refl _) _)
          have N2 : Hid (∀ (j : Nat) (u : Value), ([.int .u8 9, .int .u32 99, .string ⟨#[]⟩] : List Value)[j]? = some u → (wr.alloc (.cells #[.int .u8 9, .int .u32 99, .string ⟨#[]⟩] 58)).cell? ((⟨wr.heap.size, 0, none⟩ : Addr).add j) = some u) := World.news_of_block (cs := #[.int .u8 9, .int .u32 99, .string ⟨#[]⟩]) (t := 58) (fr := (0, 0)) (heap_alloc_new wr _)
          have N3 : Hid (∀ u : Value, u ∈ ([.int .u8 9, .int .u32 99, .string ⟨#[]⟩] : List Value) → u.oneCell' = true) := by intro u hu; simp at hu; rcases hu with rfl | rfl | rfl <;> rfl
          have N6 : Hid (lo ≤ (wr.alloc (.cells #[.int .u8 9, .int .u32 99, .string ⟨#[]⟩] 58)).heap.size) := by show _ ≤ (World.alloc _ _).heap.size; rw [World.size_alloc]; omega
          have HGA := hide (hGt.trans (World.grownBy_alloc wr (.cells #[.int .u8 9, .int .u32 99, .string ⟨#[]⟩] 58) (Value.ownBlock (.slice aj t cj))))
          have hxl : xs.length = t * 3 := hOt.1
          have HXL3 := hide hxl
          clear hOt hGt hxl
          go_wp2_with (at_builtin; refine wpList_append_lies _ rfl (.tmp 43) (.tmp 45) 46 rfl lo 58 i0 (.agg #[.int .u8 0, .int .u32 0, .string ⟨#[]⟩]) 3 24 Tryz.underlying46 HI.out.1 HI.out.2.1 HI.out.2.2.1 HI.out.2.2.2 rfl (by decide) (.slice aj t cj) t xs rfl N1.out ⟨wr.heap.size, 0, none⟩ 1 1 [.int .u8 9, .int .u32 99, .string ⟨#[]⟩] rfl rfl N2.out N3.out (by decide) (by unfold maxLen; omega) (by omega) N6.out _ rfl ?_)
          intro g7 cap7 w7 hown7 hgr7 hat7 hlt7
          obtain ⟨g7', cap7', hv7, k1, k2, k4, k5⟩ := own_form4 hown7 (by omega)
          injection hv7 with hv7 _ _
          simp only [Option.some.injEq, Addr.mk.injEq, and_true] at hv7
          subst hv7
          have z1 : w7.cell? ⟨g7, t * 3 + 1, none⟩ = some (.int .u32 99) := by
            rw [k5 _ (by omega), List.getElem?_append_right (by rw [HXL3.out]; omega), HXL3.out, show t * 3 + 1 - t * 3 = 1 by omega]
            rfl
          have zf := k4 (t * 3 + 1)
          have HG7 : Hid (V.grownBy (w7.setCell ⟨g7, t * 3 + 1, none⟩ (.int .u32 98)) (Value.ownBlock (.slice aj t cj))) := by
            have h1 := HGA.out.trans hgr7
            have hs := HGA.out.size
            refine ⟨h1.os, h1.tape, h1.output, by rw [World.size_setCell]; exact h1.size, fun i hi hne => ?_⟩
            refine (Below.heap_setCell _ _ _ _ ?_).trans (h1.block i hi hne)
            rcases hat7 with h | h
            · exact fun e => hne (by rw [h]; simp at e; rw [e])
            · have := World.size_alloc wr (.cells #[.int .u8 9, .int .u32 99, .string ⟨#[]⟩] 58); intro e; simp at e; omega
          have HV2 := hide ((HVW.out.cell (p := ⟨b, off + k * 4 + 3, none⟩) hbl).trans HC2.out)
          have HON := hide ((HOk.out.below HVW.out).next rfl (by rw [HM.out]; exact HLT.out) HV2.out HG7.out)
          have hvs := HVW.out.size
          have HBN := hide (below_own4 (HBk.out.trans (HVW.out.mono HBk.out.size)) (by have := HBk.out.size; omega) HG7.out (fun g e => by have := (HGL.out g e).1; omega))
          have HXN := hide ((HG7.out.block w.heap.size (by omega) (fun e => by have := (HGL.out _ e.symm).2; omega)).trans ((HVW.out.block w.heap.size hXl).trans HXk.out))
          have HYN := hide ((HG7.out.block (w.heap.size + 1) (by omega) (fun e => by have := (HGL.out _ e.symm).2; omega)).trans ((HVW.out.block (w.heap.size + 1) hYl).trans HYk.out))
          have HRN : Hid (∀ b' off', some (⟨b, off, none⟩ : Addr) = some ⟨b', off', none⟩ → b' < w.heap.size → (w7.setCell ⟨g7, t * 3 + 1, none⟩ (.int .u32 98)).heap[b']? = w.heap[b']?) := fun b' off' e hb' => by
            have e2 := HROW.out b' off' e hb'
            simp only [Option.some.injEq, Addr.mk.injEq, and_true] at e
            obtain ⟨rfl, rfl⟩ := e
            exact (HG7.out.block b (by omega) (fun e3 => HC5.out e3.symm)).trans ((HVW.out.block b hbl).trans e2)
          have ht1 : IntKind.i64.wrap (t : Int) = (t : Int) := by rw [IntKind.wrap_i64]; omega
          have ht2 : ((t + 1 : Nat) : Int) - 1 = (t : Int) := by omega
          have ht3 : (0 : Int) ≤ (t : Int) := by omega
          have ht4 : (t : Int) < ((t + 1 : Nat) : Int) := by omega
          have ht5 : (t : Int) < (t : Int) + 1 := by omega
          clear hown7 hgr7 hat7 k5 k4 N1 N2 N3 N6
          go_wp2_with fail
          go_roundw
          case rel => exact ⟨k + 1, by omega, by go_num, HON.out, HBN.out, HXN.out, HYN.out, HRN.out⟩
          case measure => simp [intOf]; omega
    · obtain rfl : k = m := by omega
      have x2 := (one_block hXk).1 2
      have HBk := hide hbk
      clear hOk hbk hXk hYk hrow
      go_wp2_with fail
      go_ret
      exact ⟨rfl, HBk.out⟩

end Go.Proofs.YteafjokpkljfcaaGreat

/-
  CopyBytes of the kit answers the bytes in new memory.
-/
namespace Go.Proofs.YteafjokpkljfcaaGreat
open Go.RowKit
set_option maxRecDepth 10000

theorem CopyBytes.info : (Tryz.prog.info? 5).map (fun i => (i.zero, i.size, i.bytes)) = some (some (.int .u8 0), 1, 1) := by kernel_rfl

set_option maxHeartbeats 400000 in
theorem copyBytes_any (a : Option Addr) (n cap : Nat) (zs : List Int) (w : World) (ha : View .u8 w a zs) (hl : zs.length = n) (hn : n ≤ 140737488351232) :
    Calls Tryz.prog 5 #[.slice a n cap] w fun e w' => e = .returned (.slice (some ⟨w.heap.size, 0, none⟩) n n) ∧
      w'.ownsRow w.heap.size 5 1 (.slice (some ⟨w.heap.size, 0, none⟩) n n) n (zs.map (Value.int .u8)) ∧ Below w.heap.size w w' := by
  obtain ⟨i0, hi, hz0, hz1, hz2⟩ := info_parts CopyBytes.info
  have HL : Hid (zs.length = n) := hl
  clear hl
  go_enter Tryz.func5, Tryz.ntmps5
  go_wp2_with (at_make; refine wpList_make_full _ rfl _ _ 22 rfl w.heap.size 5 i0 (.int .u8 0) 1 Tryz.underlying22 hi hz0 hz1 _ _ _ _ n rfl rfl (by omega) (by omega) (by rw [hz2]; omega) (by unfold maxLen; omega) (Nat.le_refl _) ?_)
  intro w1 hown1 hgrow1
  have hb1 : Below w.heap.size w w1 := (Below.refl _ w).grown hgrow1 (Nat.le_refl _) (by simp)
  have hr1 := made_row zs hown1
  clear hown1 hgrow1
  go_wp2
  go_loopw [4] (fun i wr => ∃ k : Nat, k ≤ n ∧ i = .int .i64 k ∧ wr.ownsRow w.heap.size 5 1 (.slice (some ⟨w.heap.size, 0, none⟩) n n) n ((filled zs k n).map (Value.int .u8)) ∧ Below w.heap.size w wr)
    (fun i _ => n - (intOf i).toNat)
  case atStart => exact ⟨0, Nat.zero_le _, rfl, hr1, hb1⟩
  case round =>
    obtain ⟨k, hk, rfl, hown, hnx⟩ := hrel
    clear hr1 hb1
    by_cases hlt : k < n
    · obtain ⟨b, off, rfl, hbs, hc⟩ := ha k (by rw [HL.out]; exact hlt)
      obtain ⟨d1, d2, d3⟩ := fill_step hown hlt (by rw [HL.out]; exact hlt)
      have hcr : wr.cell? ⟨b, off + k, none⟩ = some (.int .u8 (nth zs k)) := (hnx.cell (p := ⟨b, off + k, none⟩) hbs).trans hc
      generalize nth zs k = x at hcr d3
      clear hc ha hown
      go_wp2
      go_roundw
      case rel => exact ⟨k + 1, by omega, by go_num, d3, hnx.setCell (Nat.le_refl _) _⟩
      case measure => simp [intOf]; omega
    · go_wp2
      go_ret
      obtain rfl : k = n := by omega
      rw [filled_whole zs k HL.out] at hown
      exact ⟨rfl, hown, hnx⟩

end Go.Proofs.YteafjokpkljfcaaGreat

/-
  Bytes of the kit answers true of two lists that are the same.
-/
namespace Go.Proofs.YteafjokpkljfcaaGreat
open Go.RowKit
set_option maxRecDepth 10000

set_option maxHeartbeats 400000 in
theorem bytes_true (a b : Option Addr) (n ca cb : Nat) (zs : List Int) (w : World) (ha : View .u8 w a zs) (hb : View .u8 w b zs) (hl : zs.length = n) (hn : n ≤ 140737488351232) :
    Calls Tryz.prog 8 #[.slice a n ca, .slice b n cb] w fun e w' => e = .returned (.bool true) ∧ ∃ q, w' = w.drewN q := by
  have HL : Hid (zs.length = n) := hl
  clear hl
  go_enter Tryz.func8, Tryz.ntmps8
  go_wp2
  go_loopw [5] (fun i wr => ∃ k q : Nat, k ≤ n ∧ i = .int .i64 k ∧ wr = w.drewN q) (fun i _ => n - (intOf i).toNat)
  case atStart => exact ⟨0, 0, Nat.zero_le _, rfl, rfl⟩
  case round =>
    obtain ⟨k, q, hk, rfl, rfl⟩ := hrel
    by_cases hlt : k < n
    · obtain ⟨b1, o1, rfl, _, c1⟩ := ha k (by rw [HL.out]; exact hlt)
      obtain ⟨b2, o2, rfl, _, c2⟩ := hb k (by rw [HL.out]; exact hlt)
      have hk0 : (0 : Int) ≤ (k : Int) := by omega
      have hki : (k : Int) < (n : Int) := by omega
      clear ha hb
      go_wp2
      go_quiet (fail)
      go_wp2
      go_roundw
      case rel => exact ⟨k + 1, _, by omega, by go_num, rfl⟩
      case measure => simp [intOf]; omega
    · go_wp2
      go_ret
      exact ⟨rfl, q, rfl⟩

end Go.Proofs.YteafjokpkljfcaaGreat

/-
  Plain facts: bytes to module and back are the bytes; modules to bytes and back are the modules.
-/
namespace Go.Proofs.YteafjokpkljfcaaGreat
open Go.RowKit
set_option linter.unusedVariables false

end Go.Proofs.YteafjokpkljfcaaGreat

/-
  CodeDecodes is true for all bytes.
-/
namespace Go.Proofs.YteafjokpkljfcaaGreat
open Go.RowKit
set_option linter.unusedVariables false
set_option linter.unusedSimpArgs false
set_option maxRecDepth 10000

set_option maxHeartbeats 16000000 in
theorem codeDecodes_true (w : World) (a : Option Addr) (n cap : Nat) (zs : List Int) (hl : zs.length = n) (hv : View .u8 w a zs) (hw : Within 256 zs) (hr : 1 * n ≤ 140737488351232) :
    Calls Tryz.prog 3 #[.slice a n cap] w fun e w' => e = .returned (.bool true) ∧ Below w.heap.size w w' := by
  have hR := refDecode4_any a n cap zs w hv hl hw
  have HCP := hide fun wx (h : View .u8 wx a zs) => copyBytes_any a n cap zs wx h hl (by omega)
  have HD := hide fun wx g (h : View .u8 wx (some ⟨g, 0, none⟩) zs) => decode_any (some ⟨g, 0, none⟩) n n zs wx h hl hw
  have hdl := decL_len (bs := zs)
  have hdo := decL_ok hw
  have HKM := hide fun ax ay m cx cy wx (h1 : InstsV wx ax (decL zs)) (h2 : InstsV wx ay (decL zs)) (hm : (decL zs).length = m) => kitModule_any (decH zs 2) (decH zs 3) (decH zs 2) (decH zs 3) (decL zs) (decL zs) ax ay m m cx cy wx h1 h2 hm hm hdo hdo (by omega) (by omega) true (by simp)
  have HBY := hide fun g wx (h1 : View .u8 wx (some ⟨g, 0, none⟩) zs) (h2 : View .u8 wx a zs) => bytes_true (some ⟨g, 0, none⟩) a n n cap zs wx h1 h2 hl (by omega)
  have HOW := hide fun ax ay m cx cy lo w0 wx (hO : OwnI wx lo ax 0 (decL zs)) (hlo : w0.heap.size ≤ lo) (hV : InstsV w0 ay (decL zs)) (hb : Below w0.heap.size w0 wx) (hm : (decL zs).length = m) (hloc : lo ≤ wx.heap.size) => own4_true (decH zs 2) (decH zs 3) (decH zs 2) (decH zs 3) ax ay m cx cy lo (decL zs) w0 wx hO hlo hV hb hdo hm (by omega) hloc
  have HAW := hide fun w => awake4_true w
  unfold DecQ at hR
  generalize decH zs 2 = gen at *
  generalize decH zs 3 = bnd at *
  generalize decL zs = L at *
  generalize decE zs = EE at *
  obtain ⟨er, ea⟩ := EE
  simp only at *
  have HL := hide hl
  have HV := hide hv
  unfold modV at *
  clear hl hv hw hdo
  go_enter Tryz.func3, Tryz.ntmps3
  go_wp2_with fail
  refine hR.mono ?_
  rintro e w1 ⟨hb1, a1, m1, c1, rfl, hm1, hv1⟩
  have hba1 : Below w1.heap.size w1 ((w1.alloc (.cells #[.int .u32 gen, .int .u32 bnd, .slice a1 m1 c1] 26)).alloc (.cells #[.int .i64 er, .int .i64 (ea : Int)] 29)) := ((Below.refl _ w1).alloc (Nat.le_refl _) _).alloc (by simp) _
  have kX : ((w1.alloc (.cells #[.int .u32 gen, .int .u32 bnd, .slice a1 m1 c1] 26)).alloc (.cells #[.int .i64 er, .int .i64 (ea : Int)] 29)).heap[w1.heap.size]? = some (.cells #[.int .u32 gen, .int .u32 bnd, .slice a1 m1 c1] 26 (0, 0)) := by rw [Below.heap_alloc _ _ _ (by simp)]; exact heap_alloc_new _ _
  have kS : ((w1.alloc (.cells #[.int .u32 gen, .int .u32 bnd, .slice a1 m1 c1] 26)).alloc (.cells #[.int .i64 er, .int .i64 (ea : Int)] 29)).heap[w1.heap.size + 1]? = some (.cells #[.int .i64 er, .int .i64 (ea : Int)] 29 (0, 0)) := by have := heap_alloc_new (w1.alloc (.cells #[.int .u32 gen, .int .u32 bnd, .slice a1 m1 c1] 26)) (.cells #[.int .i64 er, .int .i64 (ea : Int)] 29); simpa using this
  have HQ := hide (And.intro kX kS)
  have HS1 : Hid (((w1.alloc (.cells #[.int .u32 gen, .int .u32 bnd, .slice a1 m1 c1] 26)).alloc (.cells #[.int .i64 er, .int .i64 (ea : Int)] 29)).heap.size = w1.heap.size + 2) := by show _ = _; simp
  have HB1 := hide (hb1.trans (hba1.mono hb1.size))
  have HV1 := hide (hv1.below hba1)
  have HM1 := hide hm1
  have hcp := HCP.out _ (HV.out.below HB1.out)
  clear hR hb1 hba1 hv1 hm1 kX kS
  go_wp2_with fail
  generalize (w1.alloc (.cells #[.int .u32 gen, .int .u32 bnd, .slice a1 m1 c1] 26)).alloc (.cells #[.int .i64 er, .int .i64 (ea : Int)] 29) = W1 at *
  refine hcp.mono ?_
  rintro e w2 ⟨rfl, hown2, hb2⟩
  have hd := HD.out w2 W1.heap.size (View.ofOwn hown2 HL.out)
  have HO2 := hide hown2
  have HB2 := hide hb2
  clear hcp hown2 hb2
  go_wp2_with fail
  refine hd.mono ?_
  rintro e w3 ⟨hb3, a3, m3, c3, rfl, hm3, hO3⟩
  obtain rfl : m1 = m3 := by rw [← HM1.out, ← hm3]
  have hba3 : Below w3.heap.size w3 ((w3.alloc (.cells #[.int .u32 gen, .int .u32 bnd, .slice a3 m1 c3] 26)).alloc (.cells #[.int .i64 er, .int .i64 (ea : Int)] 29)) := ((Below.refl _ w3).alloc (Nat.le_refl _) _).alloc (by simp) _
  have kY : ((w3.alloc (.cells #[.int .u32 gen, .int .u32 bnd, .slice a3 m1 c3] 26)).alloc (.cells #[.int .i64 er, .int .i64 (ea : Int)] 29)).heap[w3.heap.size]? = some (.cells #[.int .u32 gen, .int .u32 bnd, .slice a3 m1 c3] 26 (0, 0)) := by rw [Below.heap_alloc _ _ _ (by simp)]; exact heap_alloc_new _ _
  have kT : ((w3.alloc (.cells #[.int .u32 gen, .int .u32 bnd, .slice a3 m1 c3] 26)).alloc (.cells #[.int .i64 er, .int .i64 (ea : Int)] 29)).heap[w3.heap.size + 1]? = some (.cells #[.int .i64 er, .int .i64 (ea : Int)] 29 (0, 0)) := by have := heap_alloc_new (w3.alloc (.cells #[.int .u32 gen, .int .u32 bnd, .slice a3 m1 c3] 26)) (.cells #[.int .i64 er, .int .i64 (ea : Int)] 29); simpa using this
  have hs3 : ((w3.alloc (.cells #[.int .u32 gen, .int .u32 bnd, .slice a3 m1 c3] 26)).alloc (.cells #[.int .i64 er, .int .i64 (ea : Int)] 29)).heap.size = w3.heap.size + 2 := by simp
  have HS3 := hide hs3
  have hb23 := hb3.trans (hba3.mono hb3.size)
  have hb13 := HB2.out.trans (hb23.mono HB2.out.size)
  have HO3 := hide (hO3.below hba3)
  have HB23 := hide hb23
  have HB13 := hide hb13
  have HYT := hide (And.intro kY kT)
  have HS23 : Hid (w2.heap.size ≤ w3.heap.size) := hb3.size
  have hq1 := (hb13.block w1.heap.size (by rw [HS1.out]; omega)).trans HQ.out.1
  have hq2 := (hb13.block (w1.heap.size + 1) (by rw [HS1.out]; omega)).trans HQ.out.2
  obtain ⟨s0, s1, _⟩ := cell_of_two hq2
  obtain ⟨t0, t1, _⟩ := cell_of_two kT
  obtain ⟨bx, _⟩ := one_block hq1
  obtain ⟨by_, _⟩ := one_block kY
  have x0 := bx 0
  have x1 := bx 1
  have x2 := bx 2
  have y0 := by_ 0
  have y1 := by_ 1
  have y2 := by_ 2
  have hkm := HKM.out a3 a1 m1 c3 c1 _ ((hO3.below hba3).view) (HV1.out.below hb13) HM1.out
  clear hd hb3 hba3 hO3 hb23 hb13 hq1 hq2 kY kT bx by_ hm3 hs3
  go_wp2_with fail
  generalize (w3.alloc (.cells #[.int .u32 gen, .int .u32 bnd, .slice a3 m1 c3] 26)).alloc (.cells #[.int .i64 er, .int .i64 (ea : Int)] 29) = W3 at *
  refine hkm.mono ?_
  rintro e w4 ⟨rfl, hb4⟩
  have hby := HBY.out W1.heap.size w4 (View.ofOwn (own_below (own_below HO2.out HB23.out) hb4) HL.out) (HV.out.below (HB1.out.trans ((HB13.out.trans (hb4.mono HB13.out.size)).mono HB1.out.size)))
  have HB4 := hide hb4
  clear hkm hb4 x0 x1 x2 y0 y1 y2 s0 s1 t0 t1
  go_wp2_with fail
  refine hby.mono ?_
  rintro e w5 ⟨rfl, q5, rfl⟩
  have hdr : Below w4.heap.size w4 (w4.drewN q5) := ⟨rfl, rfl, rfl, Nat.le_refl _, fun _ _ => rfl⟩
  have HB5 := hide (HB4.out.trans (hdr.mono HB4.out.size))
  have HO5 := hide (own_below (own_below HO2.out HB23.out) HB5.out)
  clear hby hdr
  go_wp2_with fail
  generalize w4.drewN q5 = W5 at *
  go_loopw [8] (fun i wr => ∃ (k : Nat) (ys : List Int), k ≤ n ∧ i = .int .i64 k ∧ ys.length = n ∧ wr.ownsRow W1.heap.size 5 1 (.slice (some ⟨W1.heap.size, 0, none⟩) n n) n (ys.map (Value.int .u8)) ∧ W5.grownBy wr (some W1.heap.size)) (fun i _ => n - (intOf i).toNat)
  case atStart => exact ⟨0, zs, Nat.zero_le _, rfl, HL.out, HO5.out, World.grownBy.refl _ _⟩
  case round =>
    obtain ⟨k, ys, hk, rfl, hyl, hOk, hGk⟩ := hrel
    by_cases hlt : k < n
    · have hd : wr.cell? ⟨W1.heap.size, k, none⟩ = some (.int .u8 (nth ys k)) := by
        obtain ⟨b, off, e1, _, hc⟩ := View.ofRow hOk hyl k (by rw [hyl]; exact hlt)
        simp at e1
        obtain ⟨rfl, rfl⟩ := e1
        rw [Nat.zero_add] at hc
        exact hc
      have hf : wr.frozen? ⟨W1.heap.size, k, none⟩ = false := hOk.frozenAt _
      obtain ⟨hs1, hs2⟩ := hOk.stored k (.int .u8 (IntKind.u8.wrap (nth ys k + 1)))
      rw [← List.map_set] at hs1
      have HS := hide hs1
      have HG := hide (hGk.trans hs2)
      have HYL := hide hyl
      have hk0 : (0 : Int) ≤ (k : Int) := by omega
      have hki : (k : Int) < (n : Int) := by omega
      have hBl : W1.heap.size < wr.heap.size := (World.ownsRow.lt hOk W1.heap.size rfl).2
      generalize nth ys k = yk at *
      generalize hwy : IntKind.u8.wrap (yk + 1) = wy at *
      clear hOk hGk hs1 hs2 hyl
      go_wp2_with fail
      go_roundw
      case rel => exact ⟨k + 1, ys.set k wy, by omega, by go_num, by rw [List.length_set]; exact HYL.out, HS.out, HG.out⟩
      case measure => simp [intOf]; omega
    · obtain rfl : k = n := by omega
      have hs1 := HS1.out
      have hs3 := HS3.out
      have hs23 := HS23.out
      have h12 := HB2.out.size
      have h13 := HB13.out.size
      have h35 := HB5.out.size
      have hO1 := (HO2.out.lt W1.heap.size rfl).2
      have hq1 := (hGk.block w1.heap.size (by omega) (by simp; omega)).trans ((HB5.out.block w1.heap.size (by omega)).trans ((HB13.out.block w1.heap.size (by omega)).trans HQ.out.1))
      have hq3 := (hGk.block w3.heap.size (by omega) (by simp; omega)).trans ((HB5.out.block w3.heap.size (by omega)).trans HYT.out.1)
      obtain ⟨bx, _⟩ := one_block hq1
      obtain ⟨by_, _⟩ := one_block hq3
      have x0 := bx 0
      have x1 := bx 1
      have x2 := bx 2
      have y0 := by_ 0
      have y1 := by_ 1
      have y2 := by_ 2
      have hbW : Below W1.heap.size W1 wr := by
        have h5 := HB13.out.trans (HB5.out.mono HB13.out.size)
        exact ⟨hGk.os.trans h5.os, hGk.tape.trans h5.tape, hGk.output.trans h5.output, Nat.le_trans h5.size hGk.size, fun i hi => (hGk.block i (by omega) (by simp; omega)).trans (h5.block i hi)⟩
      have how := HOW.out a3 a1 m1 c3 c1 w2.heap.size W1 wr ((HO3.out.below HB5.out).kept hGk (fun g e => by simp at e; omega) (Nat.le_refl _)) h12 HV1.out hbW HM1.out (by have := hGk.size; omega)
      clear hOk hGk bx by_ hq1 hq3 hbW hyl
      go_wp2_with fail
      refine how.mono ?_
      rintro e w6 ⟨rfl, hb6⟩
      have HB6 := hide (HB1.out.trans (hb6.mono HB1.out.size))
      clear how hb6 x0 x1 x2 y0 y1 y2
      go_wp2_with fail
      refine (HAW.out _).mono ?_
      rintro e w7 ⟨rfl, hb7⟩
      have HB7 := hide (HB6.out.trans (hb7.mono HB6.out.size))
      clear hb7
      go_wp2_with fail
      go_ret
      exact ⟨rfl, HB7.out⟩

end Go.Proofs.YteafjokpkljfcaaGreat
