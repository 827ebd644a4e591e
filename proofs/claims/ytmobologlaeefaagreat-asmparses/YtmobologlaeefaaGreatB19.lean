/-
  Texts laid together in one: Ref07Line3, Ref07Line4.
-/
import Derived.WalkSpells
import Derived.WalkMore
import Derived.BigRegion
import Derived.Deep.RegionWith
import Derived.Deep.AppendLies
import Derived.Deep.RegionHeld2
import Derived.RangeFuncNested
import Derived.OwnWalkIn
import Derived.TacticsInMore
import Derived.Test.YtmobologlaeefaaGreatProg
import Derived.Test.YtmobologlaeefaaGreatB17
import Derived.Test.YtmobologlaeefaaGreatB08
import Derived.Test.YtmobologlaeefaaGreatB09
/-
  What Line of the document's answer for layer 7 returns: its arguments.
-/
namespace Go.Proofs.YtmobologlaeefaaGreat
open Go.RowKit
set_option linter.unusedVariables false
set_option linter.unusedSimpArgs false
set_option maxRecDepth 20000

theorem Kind8.info : (Tryz.prog.info? 5).map (fun i => (i.zero, i.size, i.bytes)) = some (some (.int .u8 0), 1, 1) := by kernel_rfl
theorem growB7 {W w w' : World} (h : Below W.heap.size W w) (k : Below w.heap.size w w') : Below W.heap.size W w' := h.trans (k.mono h.size)
theorem lt_a8 (W : World) : W.heap.size < (W.alloc (.cells #[.int .u8 0, .int .u32 0, .string ⟨#[]⟩] 81)).heap.size := by simp
theorem kindsN_snoc (f : Frm) (b : Int) (l : List TokT) (at_ n : Nat) : kindsL (argsN f b l at_ (n + 1)) = kindsL (argsN f b l at_ n) ++ [(argA (letterI f n) (nthT l (at_ + n)) b).1] := by rw [argsN_snoc]; simp [kindsL]

/-- Between two arguments. -/
structure LnA (w : World) (s : ByteArray) (b : Int) (l : List TokT) (a : Option Addr) (BE FB XB at_ o : Nat) (t r : Int) (j : Nat) (vk : Value) (wr : World) : Prop where
  st : LnS w BE (s.size : Int) a l wr
  good : ∀ i, i < j → argE (letterI (opF o) i) (nthT l (at_ + i)) b = 0
  inst : ∃ va, LnX BE FB XB a o (opF o) t r va wr ∧ wr.ownsRow (XB + 1) 81 3 va j ((argsN (opF o) b l at_ j).flatMap argC) ∧ ∀ g, va.ownBlock = some g → vk.ownBlock ≠ some g
  kinds : wr.ownsRow (XB + 1) 5 1 vk j ((kindsL (argsN (opF o) b l at_ j)).map (Value.int .u8))

set_option maxHeartbeats 16000000 in
theorem line_args (s : ByteArray) (b : Int) (w : World) (l : List TokT) (R : LineR) (Q : Exit → Act → World → Prop) (hn : l.length ≤ 16777216) (hin : ToksIn l) (hw : wOk l = true) (hb0 : 0 ≤ b) (hb1 : b < 4294967296) (hbad : LnBad w R Q)
    (hP : ∀ a1 w1, LnJ4 s b w l R a1 w1 → (dropR 47 (Tryz.f26.body.getD .skip)).wp Tryz.prog Q a1 w1)
    (a1 : Act) (w1 : World) (hJ : LnJ3 s b w l R a1 w1) : (dropR 38 (Tryz.f26.body.getD .skip)).wp Tryz.prog Q a1 w1 := by
  refine wp_cut 47 _ _ _ ?_ hP
  clear hP
  obtain ⟨a, c, BE, FB, XB, at_, o, t, r, ⟨f, rfl, hsz, f0, f1, f4, f6, f7, f8, f10, f12, f13, f15⟩, hS, hX, hat, hH, hL⟩ := hJ
  conv => arg 5; whnf
  rw [frame231 f hsz, f0, f1, f4, f6, f7, f8, f10, f12, f13, f15]
  clear f0 f1 f4 f6 f7 f8 f10 f12 f13 f15 hsz
  have hA0 : LnA w s b l a BE FB XB at_ o t r 0 (.slice none 0 0) w1 := ⟨hS, fun i hi => by omega, ⟨.slice none 0 0, hX, World.ownsRow_nil _ _ _ _, fun g e => by simp [Value.ownBlock] at e⟩, World.ownsRow_nil _ _ _ _⟩
  have HA0 := hide hA0
  have HH := hide hH
  have HL := hide hL
  have HBAD := hide hbad
  have HIN := hide hin
  have HW := hide hw
  have HTF := hide hX.far
  have HB01 := hide (And.intro hb0 hb1)
  have hatn : (at_ : Int) ≤ 16777216 := by omega
  have hll : (l.length : Int) ≤ 16777216 := by omega
  clear hS hX hH hL hbad hin hw hA0 hb0 hb1
  refine cut_step rfl ?_
  intro K1 hK1
  have HK1 := hide hK1
  clear hK1
  go_wp2_with fail
  refine HK1.out _ _ ?_
  clear HK1
  refine cut_step rfl ?_
  intro K3 hK3
  have HK3 := hide hK3
  clear hK3
  go_wp2_with fail
  go_loopw [20, 21] (fun vk i wr => ∃ j : Nat, at_ + j ≤ l.length ∧ i = .int .i64 ((at_ + j : Nat) : Int) ∧ LnA w s b l a BE FB XB at_ o t r j vk wr) (fun _ i _ => l.length - (intOf i).toNat)
  case atStart => exact ⟨0, by omega, by simp, HA0.out⟩
  case round =>
    obtain ⟨j, hj, rfl, hA⟩ := hrel
    obtain ⟨hst, hgood, ⟨va, hX, hrow, hap⟩, hkinds⟩ := hA
    obtain ⟨ak, ck, rfl⟩ := own_shape7 hkinds
    generalize hq0 : at_ + j = q at *
    have hq := hq0.symm
    clear hq0
    by_cases hlt : q < l.length
    · obtain ⟨g1, o1, rfl, hg1, t1, t2, t3⟩ := hst.toks q hlt
      have hX1 := hst.size
      have hX2 := hX.lt1
      have hX3 := hX.lt2
      have hok := toks_ok HW.out hlt
      have hLt := fun wx => refLetter_any (o : Int) (j : Int) wx (by omega)
      have hlk := letter_known (o : Int) (j : Int)
      have elet : letterI (lookF refT (o : Int)).1 (j : Int) = letterI (opF o) j := rfl
      rw [elet] at hLt hlk
      have hArg := fun wx => refArgument7_any (letterI (opF o) j) (nthT l q) b wx hlk hok (HIN.out q hlt).2.2.1 HB01.out.1 HB01.out.2
      have hE1 : argE (letterI (opF o) j) (nthT l q) b ≠ 0 → R = noLine (argE (letterI (opF o) j) (nthT l q) b) (nthT l q).2.2 := fun h => by
        rw [HL.out, hq]
        exact lineA_bad (by omega) hgood (by rw [← hq]; exact h)
      have hE2 : argE (letterI (opF o) j) (nthT l q) b = 0 → ∀ i, i < j + 1 → argE (letterI (opF o) i) (nthT l (at_ + i)) b = 0 := fun h i hi => by
        by_cases hij : i = j
        · subst hij; rw [← hq]; exact h
        · exact hgood i (by omega)
      have hS1 : argsN (opF o) b l at_ (j + 1) = argsN (opF o) b l at_ j ++ [argA (letterI (opF o) j) (nthT l q) b] := by rw [argsN_snoc, ← hq]
      have hS2 : kindsL (argsN (opF o) b l at_ (j + 1)) = kindsL (argsN (opF o) b l at_ j) ++ [(argA (letterI (opF o) j) (nthT l q) b).1] := by rw [kindsN_snoc, ← hq]
      generalize argE (letterI (opF o) j) (nthT l q) b = E at *
      generalize argA (letterI (opF o) j) (nthT l q) b = A at *
      generalize letterI (opF o) j = ch at *
      generalize nthT l q = z at *
      obtain ⟨z1, z2, z3⟩ := z
      obtain ⟨A1, A2, A3⟩ := A
      unfold tokV argV at hArg
      simp only at t1 t2 t3 hArg hE1 hS1 hS2
      have HE1 := hide hE1
      have HE2 := hide hE2
      have HS12 := hide (And.intro hS1 hS2)
      have hsub : IntKind.i64.wrap ((q : Int) - (at_ : Int)) = (j : Int) := by rw [IntKind.wrap_i64]; omega
      have d0 : wr.cell? ⟨FB, 0, none⟩ = some (.int .u16 (o : Int)) := (blk_cells hX.form).1 0
      have hqi : (q : Int) < (l.length : Int) := by omega
      have hq0 : (0 : Int) ≤ (q : Int) := by omega
      have lFB : FB < wr.heap.size := by have := hX.size; omega
      have HST := hide hst
      have HXX := hide hX
      have HROW := hide hrow
      have HAP := hide hap
      have HKN := hide hkinds
      have HQ := hide hq
      have HJ := hide hj
      have HLT := hide (And.intro hX1 (And.intro hX2 (And.intro hX3 hX.size)))
      clear hE1 hE2 hS1 hS2 hst hX hrow hap hkinds hgood elet hlk hok HA0 hX1 hX2 hX3 hq hj hlt
      have hKc : ∀ wx, Below wr.heap.size wr wx → wx.cell? ⟨FB, 0, none⟩ = some (.int .u16 (o : Int)) ∧ wx.cell? ⟨g1, o1 + q * 3, none⟩ = some (.int .u8 z1) ∧ wx.cell? ⟨g1, o1 + q * 3 + 1, none⟩ = some (.string z2) ∧ wx.cell? ⟨g1, o1 + q * 3 + 2, none⟩ = some (.int .i64 z3) := fun wx h =>
        ⟨(h.cell (p := ⟨FB, 0, none⟩) lFB).trans d0, (h.cell (p := ⟨g1, o1 + q * 3, none⟩) hg1).trans t1, (h.cell (p := ⟨g1, o1 + q * 3 + 1, none⟩) hg1).trans t2, (h.cell (p := ⟨g1, o1 + q * 3 + 2, none⟩) hg1).trans t3⟩
      go_wp2_with fail
      rename_i Kr hKr
      have HKR := hide hKr
      clear hKr
      have key : ∀ (y5 y170 y171 y172 y173 y174 y175 y176 y177 y178 y179 y180 y181 y182 y183 y184 y185 y186 y187 y188 y189 y190 y191 y192 y193 y194 y195 y196 y197 y198 y199 y200 y201 y202 y203 y204 y205 y206 y207 y208 y209 y210 y211 : Value) (MB : Nat) (X : World), X.heap[MB]? = some (.cells #[.int .u8 A1, .int .u32 A2, .string A3] 81 (0, 0)) → Below wr.heap.size wr X → wr.heap.size ≤ MB → Kr { tmps := #[.string s, .int .u32 b, slot f 2, slot f 3, .pointer (some ⟨w.heap.size, 0, none⟩), y5, .pointer (some ⟨w.heap.size + 1, 0, none⟩), .pointer (some ⟨w.heap.size + 2, 0, none⟩), .slice (some ⟨g1, o1, none⟩) l.length c, slot f 9, .pointer (some ⟨BE, 0, none⟩), slot f 11, .int .i64 (at_ : Int), .pointer (some ⟨FB, 0, none⟩), slot f 14, .pointer (some ⟨XB, 0, none⟩), slot f 16, slot f 17, slot f 18, slot f 19, .slice ak j ck, .int .i64 (q : Int), .pointer (some ⟨MB, 0, none⟩), .int .i64 E, slot f 24, slot f 25, slot f 26, slot f 27, slot f 28, slot f 29, slot f 30, slot f 31, slot f 32, slot f 33, slot f 34, slot f 35, slot f 36, slot f 37, slot f 38, slot f 39, slot f 40, slot f 41, slot f 42, slot f 43, slot f 44, slot f 45, slot f 46, slot f 47, slot f 48, slot f 49, slot f 50, slot f 51, slot f 52, slot f 53, slot f 54, slot f 55, slot f 56, slot f 57, slot f 58, slot f 59, slot f 60, slot f 61, slot f 62, slot f 63, slot f 64, slot f 65, slot f 66, slot f 67, slot f 68, slot f 69, slot f 70, slot f 71, slot f 72, slot f 73, slot f 74, slot f 75, slot f 76, slot f 77, slot f 78, slot f 79, slot f 80, slot f 81, slot f 82, slot f 83, slot f 84, slot f 85, slot f 86, slot f 87, slot f 88, slot f 89, slot f 90, slot f 91, slot f 92, slot f 93, slot f 94, slot f 95, slot f 96, slot f 97, slot f 98, slot f 99, slot f 100, slot f 101, slot f 102, slot f 103, slot f 104, slot f 105, slot f 106, slot f 107, slot f 108, slot f 109, slot f 110, slot f 111, slot f 112, slot f 113, slot f 114, slot f 115, slot f 116, slot f 117, slot f 118, slot f 119, slot f 120, slot f 121, slot f 122, slot f 123, slot f 124, slot f 125, slot f 126, slot f 127, slot f 128, slot f 129, slot f 130, slot f 131, slot f 132, slot f 133, slot f 134, slot f 135, slot f 136, slot f 137, slot f 138, slot f 139, slot f 140, slot f 141, slot f 142, slot f 143, slot f 144, slot f 145, slot f 146, slot f 147, slot f 148, slot f 149, slot f 150, slot f 151, slot f 152, slot f 153, slot f 154, slot f 155, slot f 156, slot f 157, slot f 158, slot f 159, slot f 160, slot f 161, slot f 162, slot f 163, slot f 164, slot f 165, slot f 166, slot f 167, slot f 168, .int .i64 (at_ : Int), y170, y171, y172, y173, y174, y175, y176, y177, y178, y179, y180, y181, y182, y183, y184, y185, y186, y187, y188, y189, y190, y191, y192, y193, y194, y195, y196, y197, y198, y199, y200, y201, y202, y203, y204, y205, y206, y207, y208, y209, y210, y211, slot f 212, slot f 213, slot f 214, slot f 215, slot f 216, slot f 217, slot f 218, slot f 219, slot f 220, slot f 221, slot f 222, slot f 223, slot f 224, slot f 225, slot f 226, slot f 227, slot f 228, slot f 229, slot f 230], defers := [] } X := by
        intro y5 y170 y171 y172 y173 y174 y175 y176 y177 y178 y179 y180 y181 y182 y183 y184 y185 y186 y187 y188 y189 y190 y191 y192 y193 y194 y195 y196 y197 y198 y199 y200 y201 y202 y203 y204 y205 y206 y207 y208 y209 y210 y211 MB X kX hbX hMB
        refine HKR.out _ _ ?_
        clear hLt hArg hKc d0 hsub
        have HST2 := hide (HST.out.below hbX)
        have HNG : Hid (g1 ≠ w.heap.size ∧ g1 ≠ w.heap.size + 1) := by have := HST.out.off g1 o1 rfl; exact ⟨by omega, by omega⟩
        by_cases hE : E = 0
        · subst hE
          have HE3 := hide (HE2.out rfl)
          clear HE2 HE1
          obtain ⟨ax, cx, rfl⟩ := own_shape7 HROW.out
          have HX2 := hide (HXX.out.below hbX)
          have HRW2 := hide (own_below HROW.out hbX)
          have HKN2 := hide (own_below HKN.out hbX)
          have hsX := HX2.out.size
          have hl1 := HX2.out.lt1
          have hl2 := HX2.out.lt2
          have hxs := hbX.size
          have HMBX : Hid (XB < MB) := by have := HXX.out.size; show XB < MB; omega
          have sMB := (Array.getElem?_eq_some_iff.1 kX).1
          obtain ⟨ci, fi⟩ := blk_cells HX2.out.inst
          have x3 := ci 3
          obtain ⟨cb, _⟩ := blk_cells kX
          have m0 := cb 0
          have m1 := cb 1
          have m2 := cb 2
          obtain ⟨i0, hi, hz0, hz1, hz2⟩ := info_parts ArgI.info
          obtain ⟨i1, gi, gz0, gz1, gz2⟩ := info_parts Kind8.info
          have N6 : Hid (XB + 1 ≤ (X.alloc (.cells #[.int .u8 A1, .int .u32 A2, .string A3] 81)).heap.size) := by show _ ≤ _; simp; omega
          have hob : ∀ g, (Value.slice ax j cx).ownBlock = some g → XB < g := fun g e => (HRW2.out.lt g e).1
          have hjn : j ≤ 16777216 := by have := HQ.out; have := HJ.out; omega
          have HKX := hide kX
          have HOB := hide hob
          have HBX := hide hbX
          clear ci fi cb kX hob hbX t1 t2 t3 hg1
          go_wp2_with (at_builtin; refine wpList_append_lies _ rfl (.tmp 202) (.tmp 204) 39 rfl (XB + 1) 81 i0 (.agg #[.int .u8 0, .int .u32 0, .string ⟨#[]⟩]) 3 24 Tryz.underlying39 hi hz0 hz1 hz2 rfl (by decide) (.slice ax j cx) j _ rfl (HRW2.out.alloc _) ⟨X.heap.size, 0, none⟩ 1 1 [.int .u8 A1, .int .u32 A2, .string A3] rfl rfl (World.news_of_block (cs := #[.int .u8 A1, .int .u32 A2, .string A3]) (t := 81) (fr := (0, 0)) (heap_alloc_new X _)) (by simp [Value.oneCell']) (by decide) (by unfold maxLen; omega) (by omega) N6.out (X.heap.size + 1) (by simp) ?_)
          intro g6 cap6 w6 hown6 hgrow6 hat6 hlt6
          have hba : Below X.heap.size X (X.alloc (.cells #[.int .u8 A1, .int .u32 A2, .string A3] 81)) := (Below.refl _ _).alloc (Nat.le_refl _) _
          have HST6 := hide ((HST2.out.below hba).row hgrow6 (fun g e => ⟨by have := HOB.out g e; omega, fun b off e2 => by have := HOB.out g e; have := HX2.out.far b off e2; omega⟩))
          have HX6 := hide ((HX2.out.below hba).row hgrow6 (fun g e => HOB.out g e))
          have hown : ∀ g, (Value.slice ax j cx).ownBlock = some g → g < wr.heap.size := fun g e => (HROW.out.lt g e).2
          have hownk : ∀ g, (Value.slice ak j ck).ownBlock = some g → XB < g ∧ g < wr.heap.size := fun g e => ⟨(HKN.out.lt g e).1, (HKN.out.lt g e).2⟩
          have hneK : (Value.slice ak j ck).ownBlock = none ∨ (Value.slice ak j ck).ownBlock ≠ (Value.slice ax j cx).ownBlock := by
            cases e : (Value.slice ak j ck).ownBlock with
            | none => exact .inl rfl
            | some g => exact .inr fun e2 => HAP.out g e2.symm e
          have HKN6 := hide ((own_below HKN2.out hba).kept hgrow6 hneK)
          have hg6k : ∀ g, (Value.slice ak j ck).ownBlock = some g → g ≠ g6 := fun g e e2 => by
            rcases hat6 with h | h
            · exact HAP.out g6 h (by rw [← e2]; exact e)
            · have := (hownk g e).2; have := HBX.out.size; omega
          have kM6 : w6.heap[MB]? = some (.cells #[.int .u8 A1, .int .u32 A2, .string A3] 81 (0, 0)) := (hgrow6.block MB (by simp; omega) (fun e => by have := hown MB e.symm; omega)).trans ((hba.block MB sMB).trans HKX.out)
          obtain ⟨cm, _⟩ := blk_cells kM6
          have m6 := cm 0
          obtain ⟨ci, fi⟩ := blk_cells HX6.out.inst
          have x6 := ci 3
          have x6f := fi 3
          have HKN7 := hide (ownsRow_setCell_below HKN6.out (a := ⟨XB, 3, none⟩) (by simp) (.slice (some ⟨g6, 0, none⟩) (j + 1) cap6))
          have HROW7 := hide (ownsRow_setCell_below hown6 (a := ⟨XB, 3, none⟩) (by simp) (.slice (some ⟨g6, 0, none⟩) (j + 1) cap6))
          have HX7 := hide (HX6.out.setArgs (.slice (some ⟨g6, 0, none⟩) (j + 1) cap6))
          have HST7 := hide (HST6.out.far (g := XB) (by omega) (fun b off e => by have := HX6.out.far b off e; omega) 3 (.slice (some ⟨g6, 0, none⟩) (j + 1) cap6))
          have HG6 := hide (And.intro hg6k (And.intro hlt6 hownk))
          have HSZ7 : Hid (XB + 1 ≤ ((w6.setCell ⟨XB, 3, none⟩ (.slice (some ⟨g6, 0, none⟩) (j + 1) cap6)).alloc (.cells #[.int .u8 A1] 5)).heap.size) := by show _ ≤ _; have := HX6.out.size; simp; omega
          have HNB : Hid (((w6.setCell ⟨XB, 3, none⟩ (.slice (some ⟨g6, 0, none⟩) (j + 1) cap6)).alloc (.cells #[.int .u8 A1] 5)).heap[w6.heap.size]? = some (.cells #[.int .u8 A1] 5 (0, 0))) := by
            have := heap_alloc_new (w6.setCell ⟨XB, 3, none⟩ (.slice (some ⟨g6, 0, none⟩) (j + 1) cap6)) (.cells #[.int .u8 A1] 5)
            rw [World.size_setCell] at this
            exact this
          have nMB : MB ≠ XB := by have := HMBX.out; omega
          have lMB : MB < w6.heap.size := (Array.getElem?_eq_some_iff.1 kM6).1
          have lXB : XB < w6.heap.size := HX6.out.size
          clear cm ci fi kM6 hneK hg6k hown hownk hgrow6 hown6 hat6 hba HKN6 HX6 HST6 HKX x3 m0 m1 m2 HRW2 HKN2 HX2 HBX hlt6 hsX hl1 hl2 hxs sMB N6 HOB
          go_wp2_with (at_builtin; refine wpList_append_lies _ rfl (.tmp 207) (.tmp 210) 43 rfl (XB + 1) 5 i1 (.int .u8 0) 1 1 Tryz.underlying43 gi gz0 gz1 gz2 rfl (by decide) (.slice ak j ck) j _ rfl (HKN7.out.alloc _) ⟨w6.heap.size, 0, none⟩ 1 1 [.int .u8 A1] rfl rfl (World.news_of_block (cs := #[.int .u8 A1]) (t := 5) (fr := (0, 0)) HNB.out) (by simp [Value.oneCell']) (by decide) (by unfold maxLen; omega) (by omega) HSZ7.out (w6.heap.size + 1) (by simp) ?_)
          intro g7 cap7 w7 hown7 hgrow7 hat7 hlt7
          have hba : Below (w6.setCell ⟨XB, 3, none⟩ (.slice (some ⟨g6, 0, none⟩) (j + 1) cap6)).heap.size (w6.setCell ⟨XB, 3, none⟩ (.slice (some ⟨g6, 0, none⟩) (j + 1) cap6)) ((w6.setCell ⟨XB, 3, none⟩ (.slice (some ⟨g6, 0, none⟩) (j + 1) cap6)).alloc (.cells #[.int .u8 A1] 5)) := (Below.refl _ _).alloc (Nat.le_refl _) _
          obtain ⟨G1, G2, G3⟩ := HG6.out
          have hlt := HX7.out.lt1
          have hlt2 := HX7.out.lt2
          have HST8 := hide ((HST7.out.below hba).row hgrow7 (fun g e => ⟨by have := (G3 g e).1; omega, fun b off e2 => by have := (G3 g e).1; have := HX7.out.far b off e2; omega⟩))
          have HX8 := hide ((HX7.out.below hba).row hgrow7 (fun g e => (G3 g e).1))
          have HROW8 := hide ((own_below HROW7.out hba).kept hgrow7 (.inr (fun e => by
            have : (Value.slice (some ⟨g6, 0, none⟩) (j + 1) cap6).ownBlock = some g6 := rfl
            rw [this] at e
            exact G1 g6 e.symm rfl)))
          have HAP8 : Hid (∀ g, (Value.slice (some ⟨g6, 0, none⟩) (j + 1) cap6).ownBlock = some g → (Value.slice (some ⟨g7, 0, none⟩) (j + 1) cap7).ownBlock ≠ some g) := fun g e e2 => by
            have h1 : some g6 = some g := e
            have h2 : some g7 = some g := e2
            have h3 : g7 = g6 := by rw [← h1] at h2; simpa using h2
            rcases hat7 with h | h
            · exact G1 g7 h h3
            · omega
          have HKN8 := hide hown7
          clear hown7 hgrow7 hat7 hba HST7 HX7 HROW7 HKN7 x6 x6f m6 G1 G2 G3
          go_wp2_with fail
          go_roundw
          case rel =>
            have hA8 : LnA w s b l (some ⟨g1, o1, none⟩) BE FB XB at_ o t r (j + 1) (.slice (some ⟨g7, 0, none⟩) (j + 1) cap7) w7 := ⟨HST8.out, HE3.out, ⟨_, HX8.out, by rw [HS12.out.1, List.flatMap_append]; exact HROW8.out, HAP8.out⟩, by rw [HS12.out.2, List.map_append]; exact HKN8.out⟩
            exact ⟨j + 1, by have := HQ.out; have := hqi; omega, by have := HQ.out; go_num, hA8⟩
          case measure => have := HQ.out; simp [intOf]; omega
        · have hE' : (E != 0) = true := by simpa using hE
          have HR := hide (HE1.out hE)
          have tt3 := (hbX.cell (p := ⟨g1, o1 + q * 3 + 2, none⟩) hg1).trans t3
          have hg2 : g1 < X.heap.size := Nat.lt_of_lt_of_le hg1 hbX.size
          clear hE HE1 HE2 HS12 HXX HROW HAP HKN t1 t2 t3
          have hlw := HST2.out.lt
          have hsw := HST2.out.size
          have LN : Hid (∀ w', LeafC w X w' → w'.cell? ⟨w.heap.size + 2, 0, none⟩ = some (.int .u16 0) ∧ w'.cell? ⟨w.heap.size + 2, 1, none⟩ = some (.int .u32 0) ∧ w'.cell? ⟨w.heap.size + 2, 2, none⟩ = some (.int .u32 0) ∧ w'.cell? ⟨w.heap.size + 2, 3, none⟩ = some (.slice none 0 0) ∧ w'.cell? ⟨g1, o1 + q * 3 + 2, none⟩ = some (.int .i64 (z3))) := fun w' h => by
            obtain ⟨_, _, ⟨z0, z1, z2, z3⟩, _⟩ := HST2.out.cells
            exact ⟨h.aside.cell (by omega) (by omega) (by omega) z0, h.aside.cell (by omega) (by omega) (by omega) z1, h.aside.cell (by omega) (by omega) (by omega) z2, h.aside.cell (by omega) (by omega) (by omega) z3, h.aside.cell hg2 HNG.out.1 HNG.out.2 tt3⟩
          have hC0 := LeafC.start HST2.out
          clear hlw hsw
          go_wp2_with fail
          rename_i Kr hKr
          have HKR := hide hKr
          clear hKr
          have key : ∀ (u : Array Value) (Xr : World), u.getD 4 undef = .pointer (some ⟨w.heap.size, 0, none⟩) → u.getD 5 undef = .bool false → u.getD 6 undef = .pointer (some ⟨w.heap.size + 1, 0, none⟩) → LeafC w X Xr → Xr.heap[w.heap.size + 1]? = some (.cells #[.int .i64 (E), .int .i64 (z3)] 28 (0, 0)) → Kr { tmps := u, defers := [] } Xr := by
            intro u Xr h4 h5 h6 hX hx
            refine HKR.out _ _ ?_
            have HX := hide hX
            have Hx := hide hx
            clear hX hx hC0
            go_wp2_with fail
            exact HBAD.out _ Xr _ _ h4 h5 h6 rfl HX.out.res Hx.out HX.out.bel HR.out
          have KEY := hide key
          clear key HKR
          have hmix : Tryz.prog.follows .mixedOrders = true := by kernel_rfl
          refine (wpIn_wide (n := 0)).1 ?_
          refine wpIn_normal (wpIn_region_any hmix (wpAnyC_sound (C := LeafC w X) _ _ _ _ ?_))
          change wpAnyC _ _ _ _ _ _ _ _ _ _ (World.drew _)
          refine wpAnyC_takeD (i := 0) (some 193) (v := .agg #[.int .u16 0, .int .u32 0, .int .u32 0, .slice none 0 0]) (fun _ => trivial) (by kernel_rfl) rfl rfl (by kernel_rfl) (by kernel_rfl) (by kernel_rfl) (fun _ _ _ h => by cases h.1) hC0 (Or.inl ⟨by kernel_rfl, fun w' hC => by obtain ⟨b0, b1, b2, b3, _⟩ := LN.out w' hC; clear hC; go_simp⟩) ?_
          simp only [Act.put, List.setIfInBounds_toArray, List.set_cons_succ, List.set_cons_zero]
          refine wpAnyC_takeD (i := 1) (some 194) (v := .int .i64 (E)) (fun _ => trivial) (by kernel_rfl) rfl rfl (by kernel_rfl) (by kernel_rfl) (by kernel_rfl) (fun _ _ _ h => by cases h.1) hC0 (Or.inl ⟨by kernel_rfl, fun w' hC => by clear hC; go_simp⟩) ?_
          simp only [Act.put, List.setIfInBounds_toArray, List.set_cons_succ, List.set_cons_zero]
          refine wpAnyC_takeD (i := 2) (some 195) (v := .slice (some ⟨g1, o1, none⟩) l.length c) (fun _ => trivial) (by kernel_rfl) rfl rfl (by kernel_rfl) (by kernel_rfl) (by kernel_rfl) (fun _ _ _ h => by cases h.1) hC0 (Or.inl ⟨by kernel_rfl, fun w' hC => by clear hC; go_simp⟩) ?_
          simp only [Act.put, List.setIfInBounds_toArray, List.set_cons_succ, List.set_cons_zero]
          refine wpAnyC_takeD (i := 3) (some 196) (v := .int .i64 ((q : Int))) (fun _ => trivial) (by kernel_rfl) rfl rfl (by kernel_rfl) (by kernel_rfl) (by kernel_rfl) (fun _ _ _ h => by cases h.1) hC0 (Or.inl ⟨by kernel_rfl, fun w' hC => by clear hC; go_simp⟩) ?_
          simp only [Act.put, List.setIfInBounds_toArray, List.set_cons_succ, List.set_cons_zero]
          refine wpAnyC_takeD (i := 4) (some 197) (v := .pointer (some ⟨g1, o1 + q * 3, none⟩)) (fun _ => trivial) (by kernel_rfl) rfl rfl (by kernel_rfl) (by kernel_rfl) (by kernel_rfl) (fun _ _ _ h => by cases h.1) hC0 (Or.inl ⟨by kernel_rfl, fun w' hC => by clear hC; go_simp⟩) ?_
          simp only [Act.put, List.setIfInBounds_toArray, List.set_cons_succ, List.set_cons_zero]
          refine wpAnyC_takeD (i := 5) (some 198) (v := .pointer (some ⟨g1, o1 + q * 3 + 2, none⟩)) (fun _ => trivial) (by kernel_rfl) rfl rfl (by kernel_rfl) (by kernel_rfl) (by kernel_rfl) (fun _ _ _ h => by cases h.1) hC0 (Or.inl ⟨by kernel_rfl, fun w' hC => by clear hC; go_simp⟩) ?_
          simp only [Act.put, List.setIfInBounds_toArray, List.set_cons_succ, List.set_cons_zero]
          refine wpAnyC_takeD (i := 6) (some 199) (v := .int .i64 (z3)) (fun _ => trivial) (by kernel_rfl) rfl rfl (by kernel_rfl) (by kernel_rfl) (by kernel_rfl) (fun _ _ _ h => by cases h.1) hC0 (Or.inl ⟨by kernel_rfl, fun w' hC => by obtain ⟨_, _, _, _, b4⟩ := LN.out w' hC; clear hC; go_simp⟩) ?_
          simp only [Act.put, List.setIfInBounds_toArray, List.set_cons_succ, List.set_cons_zero]
          refine wpAnyC_ready (rs := [7]) (by kernel_rfl) (by simp) ?_
          refine AllC.cons rfl (fun K hK => ?_) AllC.nil
          go_simp
          refine ⟨trivial, rfl, (callsIn_wide.2 (refSpot_exact _ _ _)).mono ?_⟩
          rintro x w5 ⟨rfl, hw5⟩
          dsimp only
          have hC5 : LeafC w X w5 := by rw [hw5]; exact hC0.alloc _
          clear hw5
          refine hK _ _ hC5 ?_
          clear hK K
          refine wpAnyC_ready (rs := [8]) (by kernel_rfl) (by simp) ?_
          refine AllC.cons rfl (fun K hK => ?_) AllC.nil
          obtain ⟨⟨c0, c1, c2, c3, cf⟩, _⟩ := hC5.cells
          go_simp
          refine hK _ _ (hC5).zero.1 ?_
          clear hK K c0 c1 c2 c3 cf
          refine wpAnyC_takeD (i := 9) (some 5) (v := .bool false) (fun _ => trivial) (by kernel_rfl) rfl rfl (by kernel_rfl) (by kernel_rfl) (by kernel_rfl) (fun _ _ _ h => by cases h.1) hC5.zero.1 (Or.inl ⟨by kernel_rfl, fun w' hC => by clear hC; go_simp⟩) ?_
          simp only [Act.put, List.setIfInBounds_toArray, List.set_cons_succ, List.set_cons_zero]
          refine wpAnyC_ready (rs := [10]) (by kernel_rfl) (by simp) ?_
          refine AllC.cons rfl (fun K hK => ?_) AllC.nil
          obtain ⟨_, y0, y1, s0, s1, sf⟩ := hC5.cells
          go_simp
          refine hK _ _ ((hC5.zero.1).put (.int .i64 (E)) (.int .i64 (z3))).1 ?_
          clear hK K s0 s1 sf
          have hF1 := hide (hC5.zero.1.put (.int .i64 (E)) (.int .i64 (z3))).1
          have hF2 := hide (hC5.zero.1.put (.int .i64 (E)) (.int .i64 (z3))).2
          clear hC0 hC5 LN
          refine wpAnyC_done (by kernel_rfl) ⟨rfl, ?_⟩ _
          rw [then_normal]
          generalize ((((((w5.setCell ⟨w.heap.size, 0, none⟩ (.int .u16 0)).setCell ⟨w.heap.size, 1, none⟩ (.int .u32 0)).setCell ⟨w.heap.size, 2, none⟩ (.int .u32 0)).setCell ⟨w.heap.size, 3, none⟩ (.slice none 0 0)).setCell ⟨w.heap.size + 1, 0, none⟩ (.int .i64 (E))).setCell ⟨w.heap.size + 1, 1, none⟩ (.int .i64 (z3))) = XX at *
          exact KEY.out _ XX rfl rfl rfl hF1.out hF2.out
      have KEY := hide key
      clear key HKR
      have hC0 : Below wr.heap.size wr wr.drew := below_drew wr
      have LC := hide hKc
      clear hKc
      have hmix : Tryz.prog.follows .mixedOrders = true := by kernel_rfl
      refine (wpIn_wide (n := 0)).1 ?_
      refine wpIn_normal (wpIn_region_any hmix (wpAnyC_sound (C := Below wr.heap.size wr) _ _ _ _ ?_))
      change wpAnyC _ _ _ _ _ _ _ _ _ _ (World.drew _)
      refine wpAnyC_takeD (i := 0) (some 177) (v := .pointer (some ⟨FB, 0, none⟩)) (fun _ => trivial) (by kernel_rfl) rfl rfl (by kernel_rfl) (by kernel_rfl) (by kernel_rfl) (fun _ _ _ h => by cases h.1) hC0 (Or.inl ⟨by kernel_rfl, fun w' hC => by clear hC; go_simp⟩) ?_
      simp only [Act.put, List.setIfInBounds_toArray, List.set_cons_succ, List.set_cons_zero]
      refine wpAnyC_takeD (i := 1) (some 178) (v := .int .u16 (o : Int)) (fun _ => trivial) (by kernel_rfl) rfl rfl (by kernel_rfl) (by kernel_rfl) (by kernel_rfl) (fun _ _ _ h => by cases h.1) hC0 (Or.inl ⟨by kernel_rfl, fun w' hC => by obtain ⟨e0, _, _, _⟩ := LC.out w' hC; clear hC; go_simp⟩) ?_
      simp only [Act.put, List.setIfInBounds_toArray, List.set_cons_succ, List.set_cons_zero]
      refine wpAnyC_takeD (i := 2) (some 179) (v := .int .i64 (q : Int)) (fun _ => trivial) (by kernel_rfl) rfl rfl (by kernel_rfl) (by kernel_rfl) (by kernel_rfl) (fun _ _ _ h => by cases h.1) hC0 (Or.inl ⟨by kernel_rfl, fun w' hC => by clear hC; go_simp⟩) ?_
      simp only [Act.put, List.setIfInBounds_toArray, List.set_cons_succ, List.set_cons_zero]
      refine wpAnyC_takeD (i := 3) (some 180) (v := .int .i64 (at_ : Int)) (fun _ => trivial) (by kernel_rfl) rfl rfl (by kernel_rfl) (by kernel_rfl) (by kernel_rfl) (fun _ _ _ h => by cases h.1) hC0 (Or.inl ⟨by kernel_rfl, fun w' hC => by clear hC; go_simp⟩) ?_
      simp only [Act.put, List.setIfInBounds_toArray, List.set_cons_succ, List.set_cons_zero]
      refine wpAnyC_takeD (i := 4) (some 181) (v := .int .i64 (j : Int)) (fun _ => trivial) (by kernel_rfl) rfl rfl (by kernel_rfl) (by kernel_rfl) (by kernel_rfl) (fun _ _ _ h => by cases h.1) hC0 (Or.inl ⟨by kernel_rfl, fun w' hC => by clear hC; go_simp⟩) ?_
      simp only [Act.put, List.setIfInBounds_toArray, List.set_cons_succ, List.set_cons_zero]
      refine wpAnyC_takeD (i := 6) (some 183) (v := .slice (some ⟨g1, o1, none⟩) l.length c) (fun _ => trivial) (by kernel_rfl) rfl rfl (by kernel_rfl) (by kernel_rfl) (by kernel_rfl) (fun _ _ _ h => by cases h.1) hC0 (Or.inl ⟨by kernel_rfl, fun w' hC => by clear hC; go_simp⟩) ?_
      simp only [Act.put, List.setIfInBounds_toArray, List.set_cons_succ, List.set_cons_zero]
      refine wpAnyC_takeD (i := 7) (some 184) (v := .int .i64 (q : Int)) (fun _ => trivial) (by kernel_rfl) rfl rfl (by kernel_rfl) (by kernel_rfl) (by kernel_rfl) (fun _ _ _ h => by cases h.1) hC0 (Or.inl ⟨by kernel_rfl, fun w' hC => by clear hC; go_simp⟩) ?_
      simp only [Act.put, List.setIfInBounds_toArray, List.set_cons_succ, List.set_cons_zero]
      refine wpAnyC_takeD (i := 8) (some 185) (v := .pointer (some ⟨g1, o1 + q * 3, none⟩)) (fun _ => trivial) (by kernel_rfl) rfl rfl (by kernel_rfl) (by kernel_rfl) (by kernel_rfl) (fun _ _ _ h => by cases h.1) hC0 (Or.inl ⟨by kernel_rfl, fun w' hC => by clear hC; go_simp⟩) ?_
      simp only [Act.put, List.setIfInBounds_toArray, List.set_cons_succ, List.set_cons_zero]
      refine wpAnyC_takeD (i := 9) (some 186) (v := .agg #[.int .u8 z1, .string z2, .int .i64 z3]) (fun _ => trivial) (by kernel_rfl) rfl rfl (by kernel_rfl) (by kernel_rfl) (by kernel_rfl) (fun _ _ _ h => by cases h.1) hC0 (Or.inl ⟨by kernel_rfl, fun w' hC => by obtain ⟨_, e1, e2, e3⟩ := LC.out w' hC; clear hC; go_simp⟩) ?_
      simp only [Act.put, List.setIfInBounds_toArray, List.set_cons_succ, List.set_cons_zero]
      refine wpAnyC_takeD (i := 10) (some 187) (v := .int .u32 b) (fun _ => trivial) (by kernel_rfl) rfl rfl (by kernel_rfl) (by kernel_rfl) (by kernel_rfl) (fun _ _ _ h => by cases h.1) hC0 (Or.inl ⟨by kernel_rfl, fun w' hC => by clear hC; go_simp⟩) ?_
      simp only [Act.put, List.setIfInBounds_toArray, List.set_cons_succ, List.set_cons_zero]
      refine wpAnyC_ready (rs := [5, 15]) (by kernel_rfl) (by simp) ?_
      refine AllC.cons rfl (fun K hK => ?_) (AllC.cons rfl (fun K hK => ?_) AllC.nil)
      · go_simp
        refine ⟨trivial, rfl, (callsIn_wide.2 (hLt _)).mono ?_⟩
        rintro x w3 ⟨rfl, hb3⟩
        dsimp only
        have hC3 : Below wr.heap.size wr w3 := growB7 hC0 hb3
        refine hK _ _ hC3 ?_
        clear hK K
        refine wpAnyC_ready (rs := [11, 15]) (by kernel_rfl) (by simp) ?_
        refine AllC.cons rfl (fun K hK => ?_) (AllC.cons rfl (fun K hK => ?_) AllC.nil)
        · go_simp
          refine ⟨trivial, rfl, (callsIn_wide.2 (hArg _)).mono ?_⟩
          rintro x w4 ⟨rfl, hb4⟩
          dsimp only
          have hC4 : Below wr.heap.size wr w4 := growB7 hC3 hb4
          refine hK _ _ hC4 ?_
          clear hK K
          refine wpAnyC_takeD (i := 12) (some 176) (v := .tuple #[.agg #[.int .u8 A1, .int .u32 A2, .string A3], .int .i64 E]) (fun _ => trivial) (by kernel_rfl) rfl rfl (by kernel_rfl) (by kernel_rfl) (by kernel_rfl) (fun _ _ _ h => by cases h.1) hC4 (Or.inl ⟨by kernel_rfl, fun w' hC => by clear hC; go_simp⟩) ?_
          simp only [Act.put, List.setIfInBounds_toArray, List.set_cons_succ, List.set_cons_zero]
          refine wpAnyC_takeD (i := 13) (some 189) (v := .agg #[.int .u8 A1, .int .u32 A2, .string A3]) (fun _ => trivial) (by kernel_rfl) rfl rfl (by kernel_rfl) (by kernel_rfl) (by kernel_rfl) (fun _ _ _ h => by cases h.1) hC4 (Or.inl ⟨by kernel_rfl, fun w' hC => by clear hC; go_simp⟩) ?_
          simp only [Act.put, List.setIfInBounds_toArray, List.set_cons_succ, List.set_cons_zero]
          refine wpAnyC_takeD (i := 14) (some 190) (v := .int .i64 E) (fun _ => trivial) (by kernel_rfl) rfl rfl (by kernel_rfl) (by kernel_rfl) (by kernel_rfl) (fun _ _ _ h => by cases h.1) hC4 (Or.inl ⟨by kernel_rfl, fun w' hC => by clear hC; go_simp⟩) ?_
          simp only [Act.put, List.setIfInBounds_toArray, List.set_cons_succ, List.set_cons_zero]
          refine wpAnyC_ready (rs := [15]) (by kernel_rfl) (by simp) ?_
          refine AllC.cons rfl (fun K hK => ?_) AllC.nil
          go_simp
          have hC5 : Below wr.heap.size wr (w4.alloc (.cells #[.int .u8 0, .int .u32 0, .string ⟨#[]⟩] 81)) := hC4.alloc hC4.size _
          refine hK _ _ hC5 ?_
          clear hK K
          refine wpAnyC_ready (rs := [16]) (by kernel_rfl) (by simp) ?_
          refine AllC.cons rfl (fun K hK => ?_) AllC.nil
          go_simp
          have hC6 : Below wr.heap.size wr (w4.alloc (.cells #[.int .u8 A1, .int .u32 A2, .string A3] 81)) := hC4.alloc hC4.size _
          refine hK _ _ hC6 ?_
          clear hK K
          refine wpAnyC_takeD (i := 17) (some 23) (v := .int .i64 E) (fun _ => trivial) (by kernel_rfl) rfl rfl (by kernel_rfl) (by kernel_rfl) (by kernel_rfl) (fun _ _ _ h => by cases h.1) hC6 (Or.inl ⟨by kernel_rfl, fun w' hC => by clear hC; go_simp⟩) ?_
          simp only [Act.put, List.setIfInBounds_toArray, List.set_cons_succ, List.set_cons_zero]
          refine wpAnyC_done (by kernel_rfl) ⟨rfl, ?_⟩ _
          rw [then_normal]
          have hF1 := hide (heap_alloc_new w4 (.cells #[.int .u8 A1, .int .u32 A2, .string A3] 81))
          have hF2 := hide hC6
          generalize w4.alloc (.cells #[.int .u8 A1, .int .u32 A2, .string A3] 81) = XF at *
          exact KEY.out _ _ _ _ _ _ _ _ _ _ _ _ _ _ _ _ _ _ _ _ _ _ _ _ _ _ _ _ _ _ _ _ _ _ _ _ _ _ _ _ _ _ _ w4.heap.size XF hF1.out hF2.out hC4.size
        · go_simp
          have hC5 : Below wr.heap.size wr (w3.alloc (.cells #[.int .u8 0, .int .u32 0, .string ⟨#[]⟩] 81)) := hC3.alloc hC3.size _
          refine hK _ _ hC5 ?_
          clear hK K
          refine wpAnyC_ready (rs := [11]) (by kernel_rfl) (by simp) ?_
          refine AllC.cons rfl (fun K hK => ?_) AllC.nil
          go_simp
          refine ⟨trivial, rfl, (callsIn_wide.2 (hArg _)).mono ?_⟩
          rintro x w4 ⟨rfl, hb4⟩
          dsimp only
          have hC4 : Below wr.heap.size wr w4 := growB7 hC5 hb4
          refine hK _ _ hC4 ?_
          clear hK K
          refine wpAnyC_takeD (i := 12) (some 176) (v := .tuple #[.agg #[.int .u8 A1, .int .u32 A2, .string A3], .int .i64 E]) (fun _ => trivial) (by kernel_rfl) rfl rfl (by kernel_rfl) (by kernel_rfl) (by kernel_rfl) (fun _ _ _ h => by cases h.1) hC4 (Or.inl ⟨by kernel_rfl, fun w' hC => by clear hC; go_simp⟩) ?_
          simp only [Act.put, List.setIfInBounds_toArray, List.set_cons_succ, List.set_cons_zero]
          refine wpAnyC_takeD (i := 13) (some 189) (v := .agg #[.int .u8 A1, .int .u32 A2, .string A3]) (fun _ => trivial) (by kernel_rfl) rfl rfl (by kernel_rfl) (by kernel_rfl) (by kernel_rfl) (fun _ _ _ h => by cases h.1) hC4 (Or.inl ⟨by kernel_rfl, fun w' hC => by clear hC; go_simp⟩) ?_
          simp only [Act.put, List.setIfInBounds_toArray, List.set_cons_succ, List.set_cons_zero]
          refine wpAnyC_takeD (i := 14) (some 190) (v := .int .i64 E) (fun _ => trivial) (by kernel_rfl) rfl rfl (by kernel_rfl) (by kernel_rfl) (by kernel_rfl) (fun _ _ _ h => by cases h.1) hC4 (Or.inl ⟨by kernel_rfl, fun w' hC => by clear hC; go_simp⟩) ?_
          simp only [Act.put, List.setIfInBounds_toArray, List.set_cons_succ, List.set_cons_zero]
          refine wpAnyC_ready (rs := [16]) (by kernel_rfl) (by simp) ?_
          refine AllC.cons rfl (fun K hK => ?_) AllC.nil
          obtain ⟨y, yf⟩ := blk_cells ((hb4.block _ (lt_a8 w3)).trans (heap_alloc_new w3 (.cells #[.int .u8 0, .int .u32 0, .string ⟨#[]⟩] 81)))
          have y0 := y 0
          have y1 := y 1
          have y2 := y 2
          obtain ⟨hk6, hb6⟩ := arg_put ((hb4.block _ (lt_a8 w3)).trans (heap_alloc_new w3 (.cells #[.int .u8 0, .int .u32 0, .string ⟨#[]⟩] 81))) (.int .u8 A1) (.int .u32 A2) (.string A3)
          have hC6 : Below wr.heap.size wr (((w4.setCell ⟨w3.heap.size, 0, none⟩ (.int .u8 A1)).setCell ⟨w3.heap.size, 1, none⟩ (.int .u32 A2)).setCell ⟨w3.heap.size, 2, none⟩ (.string A3)) := hC4.trans (hb6.mono hC3.size)
          clear y hb6
          go_simp
          refine hK _ _ hC6 ?_
          clear hK K y0 y1 y2 yf
          refine wpAnyC_takeD (i := 17) (some 23) (v := .int .i64 E) (fun _ => trivial) (by kernel_rfl) rfl rfl (by kernel_rfl) (by kernel_rfl) (by kernel_rfl) (fun _ _ _ h => by cases h.1) hC6 (Or.inl ⟨by kernel_rfl, fun w' hC => by clear hC; go_simp⟩) ?_
          simp only [Act.put, List.setIfInBounds_toArray, List.set_cons_succ, List.set_cons_zero]
          refine wpAnyC_done (by kernel_rfl) ⟨rfl, ?_⟩ _
          rw [then_normal]
          have hF1 := hide hk6
          have hF2 := hide hC6
          generalize ((w4.setCell ⟨w3.heap.size, 0, none⟩ (.int .u8 A1)).setCell ⟨w3.heap.size, 1, none⟩ (.int .u32 A2)).setCell ⟨w3.heap.size, 2, none⟩ (.string A3) = XF at *
          exact KEY.out _ _ _ _ _ _ _ _ _ _ _ _ _ _ _ _ _ _ _ _ _ _ _ _ _ _ _ _ _ _ _ _ _ _ _ _ _ _ _ _ _ _ _ w3.heap.size XF hF1.out hF2.out hC3.size
      · go_simp
        have hC5 : Below wr.heap.size wr (wr.drew.alloc (.cells #[.int .u8 0, .int .u32 0, .string ⟨#[]⟩] 81)) := hC0.alloc hC0.size _
        refine hK _ _ hC5 ?_
        clear hK K
        refine wpAnyC_ready (rs := [5]) (by kernel_rfl) (by simp) ?_
        refine AllC.cons rfl (fun K hK => ?_) AllC.nil
        go_simp
        refine ⟨trivial, rfl, (callsIn_wide.2 (hLt _)).mono ?_⟩
        rintro x w3 ⟨rfl, hb3⟩
        dsimp only
        have hC3 : Below wr.heap.size wr w3 := growB7 hC5 hb3
        have L1 : wr.heap.size < w3.heap.size := Nat.lt_of_lt_of_le (by simp : wr.heap.size < (wr.drew.alloc (.cells #[.int .u8 0, .int .u32 0, .string ⟨#[]⟩] 81)).heap.size) hb3.size
        have HZ1 := (hb3.block wr.heap.size (by simp)).trans (heap_alloc_new wr.drew (.cells #[.int .u8 0, .int .u32 0, .string ⟨#[]⟩] 81))
        refine hK _ _ hC3 ?_
        clear hK K
        refine wpAnyC_ready (rs := [11]) (by kernel_rfl) (by simp) ?_
        refine AllC.cons rfl (fun K hK => ?_) AllC.nil
        go_simp
        refine ⟨trivial, rfl, (callsIn_wide.2 (hArg _)).mono ?_⟩
        rintro x w4 ⟨rfl, hb4⟩
        dsimp only
        have hC4 : Below wr.heap.size wr w4 := growB7 hC3 hb4
        refine hK _ _ hC4 ?_
        clear hK K
        refine wpAnyC_takeD (i := 12) (some 176) (v := .tuple #[.agg #[.int .u8 A1, .int .u32 A2, .string A3], .int .i64 E]) (fun _ => trivial) (by kernel_rfl) rfl rfl (by kernel_rfl) (by kernel_rfl) (by kernel_rfl) (fun _ _ _ h => by cases h.1) hC4 (Or.inl ⟨by kernel_rfl, fun w' hC => by clear hC; go_simp⟩) ?_
        simp only [Act.put, List.setIfInBounds_toArray, List.set_cons_succ, List.set_cons_zero]
        refine wpAnyC_takeD (i := 13) (some 189) (v := .agg #[.int .u8 A1, .int .u32 A2, .string A3]) (fun _ => trivial) (by kernel_rfl) rfl rfl (by kernel_rfl) (by kernel_rfl) (by kernel_rfl) (fun _ _ _ h => by cases h.1) hC4 (Or.inl ⟨by kernel_rfl, fun w' hC => by clear hC; go_simp⟩) ?_
        simp only [Act.put, List.setIfInBounds_toArray, List.set_cons_succ, List.set_cons_zero]
        refine wpAnyC_takeD (i := 14) (some 190) (v := .int .i64 E) (fun _ => trivial) (by kernel_rfl) rfl rfl (by kernel_rfl) (by kernel_rfl) (by kernel_rfl) (fun _ _ _ h => by cases h.1) hC4 (Or.inl ⟨by kernel_rfl, fun w' hC => by clear hC; go_simp⟩) ?_
        simp only [Act.put, List.setIfInBounds_toArray, List.set_cons_succ, List.set_cons_zero]
        refine wpAnyC_ready (rs := [16]) (by kernel_rfl) (by simp) ?_
        refine AllC.cons rfl (fun K hK => ?_) AllC.nil
        obtain ⟨y, yf⟩ := blk_cells ((hb4.block _ L1).trans HZ1)
        have y0 := y 0
        have y1 := y 1
        have y2 := y 2
        obtain ⟨hk6, hb6⟩ := arg_put ((hb4.block _ L1).trans HZ1) (.int .u8 A1) (.int .u32 A2) (.string A3)
        have hC6 : Below wr.heap.size wr (((w4.setCell ⟨wr.heap.size, 0, none⟩ (.int .u8 A1)).setCell ⟨wr.heap.size, 1, none⟩ (.int .u32 A2)).setCell ⟨wr.heap.size, 2, none⟩ (.string A3)) := hC4.trans (hb6.mono (Nat.le_refl _))
        clear y hb6
        go_simp
        refine hK _ _ hC6 ?_
        clear hK K y0 y1 y2 yf
        refine wpAnyC_takeD (i := 17) (some 23) (v := .int .i64 E) (fun _ => trivial) (by kernel_rfl) rfl rfl (by kernel_rfl) (by kernel_rfl) (by kernel_rfl) (fun _ _ _ h => by cases h.1) hC6 (Or.inl ⟨by kernel_rfl, fun w' hC => by clear hC; go_simp⟩) ?_
        simp only [Act.put, List.setIfInBounds_toArray, List.set_cons_succ, List.set_cons_zero]
        refine wpAnyC_done (by kernel_rfl) ⟨rfl, ?_⟩ _
        rw [then_normal]
        have hF1 := hide hk6
        have hF2 := hide hC6
        generalize ((w4.setCell ⟨wr.heap.size, 0, none⟩ (.int .u8 A1)).setCell ⟨wr.heap.size, 1, none⟩ (.int .u32 A2)).setCell ⟨wr.heap.size, 2, none⟩ (.string A3) = XF at *
        exact KEY.out _ _ _ _ _ _ _ _ _ _ _ _ _ _ _ _ _ _ _ _ _ _ _ _ _ _ _ _ _ _ _ _ _ _ _ _ _ _ _ _ _ _ _ wr.heap.size XF hF1.out hF2.out (Nat.le_refl _)
    · have HQ : Hid (q = l.length) := by show _ = _; omega
      have HM : Hid (at_ + j = l.length) := by show _ = _; omega
      obtain ⟨ax, cx, rfl⟩ := own_shape7 hrow
      have HST := hide hst
      have HGD := hide hgood
      have HXX := hide hX
      have HROW := hide hrow
      have HKN := hide hkinds
      have hqi : ((q : Int) < (l.length : Int)) = False := by simp; omega
      clear hst hgood hX hrow hkinds hap hlt HA0 hq
      go_wp2_with fail
      refine HK3.out _ _ ?_
      refine cut_done rfl ?_
      refine ⟨a, c, BE, FB, XB, at_, o, t, r, ax, ak, j, cx, ck, ⟨_, rfl, rfl, rfl, rfl, rfl, rfl, rfl, rfl, rfl, rfl, rfl, rfl⟩, HST.out, HXX.out, HM.out, HH.out, HL.out, HROW.out, ?_, HGD.out⟩
      have hkn := HKN.out
      have hlen : (kindsL (argsN (opF o) b l at_ j)).length = j := by rw [kindsL, List.length_map, argsN_len]
      rcases hkn.2 with ⟨e, h0⟩ | ⟨g, cap, cur, e, _⟩
      · intro i hi; omega
      · simp only [Value.slice.injEq, true_and] at e
        obtain ⟨rfl, rfl⟩ := e
        exact View.ofRow hkn hlen

end Go.Proofs.YtmobologlaeefaaGreat

/-
  What Line of the document's answer for layer 7 returns: from its last call on.
-/
namespace Go.Proofs.YtmobologlaeefaaGreat
open Go.RowKit
set_option linter.unusedVariables false
set_option linter.unusedSimpArgs false
set_option maxRecDepth 20000

theorem op_sizes (o : Nat) : noText (opF o) = true ∧ shortF (opF o) = true := look_noText (o : Int)
set_option maxHeartbeats 8000000 in
theorem line_fits (s : ByteArray) (b : Int) (w : World) (l : List TokT) (R : LineR) (Q : Exit → Act → World → Prop) (hn : l.length ≤ 16777216) (hin : ToksIn l) (hbad : LnBad w R Q) (hgood : LnOk w R Q)
    (a1 : Act) (w1 : World) (hJ : LnJ4 s b w l R a1 w1) : (dropR 47 (Tryz.f26.body.getD .skip)).wp Tryz.prog Q a1 w1 := by
  obtain ⟨a, c, BE, FB, XB, at_, o, t, r, ax, ak, m, cx, ck, ⟨f, rfl, hsz, f0, f1, f4, f6, f7, f8, f10, f13, f15, f20⟩, hS, hX, hm, hH, hL, hrow, hview, hg⟩ := hJ
  conv => arg 2; whnf
  rw [frame231 f hsz, f0, f1, f4, f6, f7, f8, f10, f13, f15, f20]
  clear f0 f1 f4 f6 f7 f8 f10 f13 f15 f20 hsz
  obtain ⟨⟨hk1, hk2, hk3, hk4, hk5⟩, hk6, hk7, hk8⟩ := hH
  obtain ⟨ga, gb, gc⟩ := args_right (o := (o : Int)) (f := opF o) (b := b) (l := l) (at_ := at_) (n := m) rfl hg hin (by omega)
  have hlen := argsN_len (opF o) b l at_ m
  have hV := argsV_own7 hrow hlen
  have hok : InstOk ((o : Int), t, r, argsN (opF o) b l at_ m) := ⟨by simp, by simp; omega, hk7, hk8, hk4, hk5, ga, by simp only [hlen]; omega⟩
  have hfew := words_few (b := b) (op_sizes o) ga (by rw [hlen]; omega) (fun i hi => by have := wrongL_zero gb i hi; simpa using this)
  have hA := lineA_ok (o := (o : Int)) (f := opF o) (t := t) (r := r) (l := l) (at_ := at_) (len := (s.size : Int)) (b := b) (fun i hi => hg i (by omega))
  rw [show l.length - at_ = m by omega, ← hL] at hA
  have hFt := fun wx (hx : View .u8 wx ak (kindsL (argsN (opF o) b l at_ m))) => refFits_any (o : Int) ak m ck (kindsL (argsN (opF o) b l at_ m)) wx hx (by rw [kindsL, List.length_map, hlen]) (by omega)
  have hRm := fun wx (hx : ArgsV wx ax (argsN (opF o) b l at_ m)) => refRoom4_any ((o : Int), t, r, argsN (opF o) b l at_ m) (o : Int) (opF o) ax m cx wx hx hok hlen hfew
  have hfit : fitsI (lookF refT (o : Int)).2 (lookF refT (o : Int)).1 (kindsL (argsN (opF o) b l at_ m)) = ((fitsI (lookF refT (o : Int)).2 (lookF refT (o : Int)).1 (kindsL (argsN (opF o) b l at_ m))).1, wholeN (opF o) (m : Int)) := Prod.ext rfl (by rw [hk1]; exact gc)
  rw [hfit] at hFt
  generalize (fitsI (lookF refT (o : Int)).2 (lookF refT (o : Int)).1 (kindsL (argsN (opF o) b l at_ m))).1 = fz at hFt
  have HS := hide hS
  have HX := hide hX
  have HV := hide hV
  have HA := hide hA
  have HROW := hide hrow
  have HLEN := hide hlen
  have HBAD := hide hbad
  have HGOOD := hide hgood
  have hFt1 := hFt w1 hview
  have HRM := hide hRm
  have c0 : w1.cell? ⟨FB, 0, none⟩ = some (.int .u16 (o : Int)) := (blk_cells hX.form).1 0
  clear hS hX hV hA hrow hlen hbad hgood hFt hRm hview hfit hfew hok ga gb gc hk1 hk2 hk3 hk4 hk5 hk6 hk7 hk8 hL hg
  generalize hw : wholeN (opF o) (m : Int) = wh at *
  generalize argsN (opF o) b l at_ m = xs at *
  cases wh
  · have HR : Hid (R = noLine 72 (s.size : Int)) := by have := HA.out; rw [if_pos rfl] at this; exact this
    go_wp2_with fail
    refine hFt1.mono ?_
    rintro x w2 ⟨rfl, hb2⟩
    have HS2 := hide (HS.out.below hb2)
    clear hFt1 hb2 HS c0 HA HRM HROW HV
    have hlw := HS2.out.lt
    have hsw := HS2.out.size
    obtain ⟨⟨u0, u1, u2, u3, fu⟩, ⟨p0, p1, fp⟩, ⟨z0, z1, z2, z3⟩, ⟨q0, q1⟩⟩ := HS2.out.cells
    have hput := HS2.out.put (.int .u16 0) (.int .u32 0) (.int .u32 0) (.slice none 0 0) (.int .i64 (72)) (.int .i64 ((s.size : Int))) (.cells #[.int .i64 (72), .int .i64 ((s.size : Int))] 28)
    have HPUT := hide hput
    have n1 : BE ≠ w.heap.size := by omega
    have n2 : BE ≠ w.heap.size + 1 := by omega
    have l0 : w.heap.size < w2.heap.size := by omega
    have l1 : w.heap.size + 1 < w2.heap.size := by omega
    have l2 : w.heap.size + 2 < w2.heap.size := by omega
    clear hput hlw 
    go_wp2_with fail
    refine wp_norm ?_
    go_region
    all_goals
      rw [onNormal_normal]
      generalize ((((((w2.setCell ⟨w.heap.size, 0, none⟩ (.int .u16 0)).setCell ⟨w.heap.size, 1, none⟩ (.int .u32 0)).setCell ⟨w.heap.size, 2, none⟩ (.int .u32 0)).setCell ⟨w.heap.size, 3, none⟩ (.slice none 0 0)).setCell ⟨w.heap.size + 1, 0, none⟩ (.int .i64 (72))).setCell ⟨w.heap.size + 1, 1, none⟩ (.int .i64 ((s.size : Int)))) = X at *
      go_wp2_with fail
      first
        | exact HBAD.out _ _ _ _ rfl rfl rfl rfl HPUT.out.1.1 HPUT.out.1.2.1 HPUT.out.1.2.2 HR.out
        | exact HBAD.out _ _ _ _ rfl rfl rfl rfl HPUT.out.2.1 HPUT.out.2.2.1 HPUT.out.2.2.2 HR.out
        | exact HBAD.out _ _ _ _ rfl rfl rfl rfl HPUT.out.2.1 HPUT.out.2.2.1 HPUT.out.2.2.2.drew HR.out
        | exact HBAD.out _ _ _ _ rfl rfl rfl rfl HPUT.out.1.1 HPUT.out.1.2.1 HPUT.out.1.2.2.drew HR.out
  · go_wp2_with fail
    refine hFt1.mono ?_
    rintro x w2 ⟨rfl, hb2⟩
    have HS2 := hide (HS.out.below hb2)
    have HX2 := hide (HX.out.below hb2)
    have HROW2 := hide (own_below HROW.out hb2)
    have hRm := HRM.out w2 (HV.out.below hb2)
    unfold instV formV at hRm
    simp only at hRm
    obtain ⟨cf, _⟩ := blk_cells HX2.out.form
    obtain ⟨ci, _⟩ := blk_cells HX2.out.inst
    have d0 : w2.cell? ⟨FB, 0, none⟩ = some (.int .u16 (o : Int)) := cf 0
    have d1 : w2.cell? ⟨FB, 1, none⟩ = some (.string (opF o).1) := cf 1
    have d2 : w2.cell? ⟨FB, 2, none⟩ = some (.bool (opF o).2.1) := cf 2
    have d3 : w2.cell? ⟨FB, 3, none⟩ = some (.bool (opF o).2.2.1) := cf 3
    have d4 : w2.cell? ⟨FB, 4, none⟩ = some (.string (opF o).2.2.2.1) := cf 4
    have d5 : w2.cell? ⟨FB, 5, none⟩ = some (.string (opF o).2.2.2.2.1) := cf 5
    have d6 : w2.cell? ⟨FB, 6, none⟩ = some (.int .i64 (opF o).2.2.2.2.2.1) := cf 6
    have d7 : w2.cell? ⟨FB, 7, none⟩ = some (.int .u8 (opF o).2.2.2.2.2.2) := cf 7
    have x0 := ci 0
    have x1 := ci 1
    have x2 := ci 2
    have x3 := ci 3
    clear hFt1 hb2 HS c0 HRM HROW HV HX cf ci
    generalize hrl : 1 + (rawL (opF o) ((o : Int), t, r, xs)).length = rl at *
    have HA2 := HA.out
    rw [if_neg (by simp)] at HA2
    have HA3 := hide HA2
    clear HA2 HA hw hrl
    generalize opF o = fo at *
    obtain ⟨nm, ty, re, fx, rs, mo, pa⟩ := fo
    simp only at d1 d2 d3 d4 d5 d6 d7 hRm
    by_cases hbig : 65535 < rl
    · have hbig' : decide ((65535 : Int) < (rl : Int)) = true := by simpa using (by omega : (65535 : Int) < (rl : Int))
      have HR : Hid (R = noLine 25 0) := by have := HA3.out; rw [if_pos hbig] at this; exact this
      clear hbig HA3
      go_wp2_with fail
      refine hRm.mono ?_
      rintro x w3 ⟨rfl, hb3⟩
      have HS3 := hide (HS2.out.below hb3)
      clear hRm hb3 HS2 HX2 HROW2 d0 d1 d2 d3 d4 d5 d6 d7 x0 x1 x2 x3
      have hlw := HS3.out.lt
      have hsw := HS3.out.size
      obtain ⟨⟨u0, u1, u2, u3, fu⟩, ⟨p0, p1, fp⟩, ⟨z0, z1, z2, z3⟩, ⟨q0, q1⟩⟩ := HS3.out.cells
      have hput := HS3.out.put (.int .u16 0) (.int .u32 0) (.int .u32 0) (.slice none 0 0) (.int .i64 (25)) (.int .i64 (0)) (.cells #[.int .i64 (25), .int .i64 (0)] 28)
      have HPUT := hide hput
      have n1 : BE ≠ w.heap.size := by omega
      have n2 : BE ≠ w.heap.size + 1 := by omega
      have l0 : w.heap.size < w3.heap.size := by omega
      have l1 : w.heap.size + 1 < w3.heap.size := by omega
      have l2 : w.heap.size + 2 < w3.heap.size := by omega
      clear hput hlw 
      go_wp2_with fail
      refine wp_norm ?_
      go_region_with ((go_at_call 22; refine (refSpot_exact _ _ _).mono ?_; rintro x w5 ⟨rfl, rfl⟩))
      all_goals
        rw [onNormal_normal]
        generalize ((((((w3.setCell ⟨w.heap.size, 0, none⟩ (.int .u16 0)).setCell ⟨w.heap.size, 1, none⟩ (.int .u32 0)).setCell ⟨w.heap.size, 2, none⟩ (.int .u32 0)).setCell ⟨w.heap.size, 3, none⟩ (.slice none 0 0)).setCell ⟨w.heap.size + 1, 0, none⟩ (.int .i64 (25))).setCell ⟨w.heap.size + 1, 1, none⟩ (.int .i64 (0))) = X at *
        go_wp2_with fail
        first
          | exact HBAD.out _ _ _ _ rfl rfl rfl rfl HPUT.out.1.1 HPUT.out.1.2.1 HPUT.out.1.2.2 HR.out
          | exact HBAD.out _ _ _ _ rfl rfl rfl rfl HPUT.out.2.1 HPUT.out.2.2.1 HPUT.out.2.2.2 HR.out
          | exact HBAD.out _ _ _ _ rfl rfl rfl rfl HPUT.out.2.1 HPUT.out.2.2.1 HPUT.out.2.2.2.drew HR.out
          | exact HBAD.out _ _ _ _ rfl rfl rfl rfl HPUT.out.1.1 HPUT.out.1.2.1 HPUT.out.1.2.2.drew HR.out
    · have hbig' : decide ((65535 : Int) < (rl : Int)) = false := by simpa using (by omega : ¬ (65535 : Int) < (rl : Int))
      have HR : Hid (R = (((o : Int), t, r, xs), true, 0, 0)) := by have := HA3.out; rw [if_neg hbig] at this; exact this
      clear hbig HA3
      go_wp2_with fail
      refine hRm.mono ?_
      rintro x w3 ⟨rfl, hb3⟩
      have HS3 := hide (HS2.out.below hb3)
      have HX3 := hide (HX2.out.below hb3)
      have HROW3 := hide (own_below HROW2.out hb3)
      clear hRm hb3 HS2 HX2 HROW2 d0 d1 d2 d3 d4 d5 d6 d7 x0 x1 x2 x3
      obtain ⟨ci, _⟩ := blk_cells HX3.out.inst
      have x0 := ci 0
      have x1 := ci 1
      have x2 := ci 2
      have x3 := ci 3
      have hlw := HS3.out.lt
      have hl1 := HX3.out.lt1
      have hl2 := HX3.out.lt2
      obtain ⟨⟨u0, u1, u2, u3, fu⟩, ⟨p0, p1, fp⟩, _, _⟩ := HS3.out.cells
      obtain ⟨⟨y1, y2, y3⟩, _⟩ := HS3.out.put (.int .u16 (o : Int)) (.int .u32 t) (.int .u32 r) (.slice ax m cx) (.int .i64 0) (.int .i64 0) (.deferred none)
      have HY := hide (And.intro y1 (And.intro y2 y3))
      have HO := hide (own_mono7 (six_own HROW3.out (b := w.heap.size) (by omega) (.int .u16 (o : Int)) (.int .u32 t) (.int .u32 r) (.slice ax m cx) (.int .i64 0) (.int .i64 0)) (B' := w.heap.size + 2) (by omega))
      have n1 : XB ≠ w.heap.size := by omega
      have n2 : XB ≠ w.heap.size + 1 := by omega
      clear ci y1 y2 y3 hlw hl1 hl2
      go_wp2_with fail
      generalize ((((((w3.setCell ⟨w.heap.size, 0, none⟩ (.int .u16 (o : Int))).setCell ⟨w.heap.size, 1, none⟩ (.int .u32 t)).setCell ⟨w.heap.size, 2, none⟩ (.int .u32 r)).setCell ⟨w.heap.size, 3, none⟩ (.slice ax m cx)).setCell ⟨w.heap.size + 1, 0, none⟩ (.int .i64 0)).setCell ⟨w.heap.size + 1, 1, none⟩ (.int .i64 0)) = X at *
      exact HGOOD.out _ X ((o : Int), t, r, xs) ax m cx rfl rfl rfl rfl HY.out.1 HY.out.2.1 HY.out.2.2 HO.out HLEN.out HR.out

end Go.Proofs.YtmobologlaeefaaGreat
