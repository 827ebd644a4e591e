/-
  Texts laid together in one: Ref07Writtentf, Ref07Writtenft, Ref07Writtenff, Ref07Written, ArgInsts.
-/
import Derived.WalkSpells
import Derived.WalkMore
import Derived.BigRegion
import Derived.BigQuiet
import Derived.Deep.RegionHeld2
import Derived.Test.YtddackdadebjjaaGreatProg
import Derived.Test.YtddackdadebjjaaGreatB23
import Derived.ProofKit
import Derived.OpenShut
import Derived.SizedLaws
import Derived.Deep.Slices
import Derived.Deep.SlicePairs
import Derived.Lib.SmallJoins
import Derived.Test.YtddackdadebjjaaGreatB01
/-
  Written of the document: an instruction's line. Here: the form has a result: true, a type: false.
-/
namespace Go.Proofs.YtddackdadebjjaaGreat
open Go.RowKit
set_option linter.unusedSimpArgs false
set_option maxRecDepth 10000
set_option linter.unusedVariables false

set_option maxHeartbeats 8000000 in
theorem refWritten7_tf (x : InstT) (ax : Option Addr) (n cx : Nat) (w : World) (hv : ArgsV w ax x.2.2.2) (hl : x.2.2.2.length = n) (hn : n ≤ 140737488351232) (hx : InstOk x) (hk : (lookF refT x.1).2 = true) (hsz : (wtAll (tksI x)).length ≤ 1099511627776) (hrs : (lookF refT x.1).1.2.2.1 = true) (hty : (lookF refT x.1).1.2.1 = false) :
    Calls Tryz.prog 10 #[.agg #[.int .u16 x.1, .int .u32 x.2.1, .int .u32 x.2.2.1, .slice ax n cx]] w fun e w' => e = .returned (.string (wtO (tksI x))) ∧ Below w.heap.size w w' := by
  have hOf := fun wx => refOf_any x.1 wx
  unfold ofV formV at hOf
  rw [hk, if_pos rfl] at hOf
  have HDR := hide fun wx => refDigitsI_any x.2.2.1 wx hx.2.2.2.2.1 hx.2.2.2.2.2.1
  have HDT := hide fun wx => refDigitsI_any x.2.1 wx hx.2.2.1 hx.2.2.2.1
  have HDA := hide fun wx k (h : k < n) => refDigitsI_any (nthA x.2.2.2 k).2.1 wx (hx.2.2.2.2.2.2.1 k (by omega)).2.2.1 (hx.2.2.2.2.2.2.1 k (by omega)).2.2.2.1
  have HLE := hide fun wx k (h : k < n) => refLetter_any x.1 ((k : Nat) : Int) wx (by omega)
  have HEN := hide fun wx c v => refEnum_any c v wx
  have HAS := hide fun k (h : k < n) => (hx.2.2.2.2.2.2.1 k (by omega)).2.2.2.2
  obtain ⟨T, hT⟩ : ∃ T : Nat → ByteArray, ∀ k, T k = wtO (preTk (lookF refT x.1).1 x ++ (argTks (lookF refT x.1).1 x.2.2.2).take k) := ⟨_, fun _ => rfl⟩
  have HTZ := hide fun k => (by rw [hT]; exact wtO_front x k hsz : (T k).size ≤ 1099511627776)
  have HTN := hide fun k (h : k < n) => (by rw [hT, hT]; exact wtO_arg x k (by omega) : T (k + 1) = T k ++ strOfNums (32 :: wtS (argTk (letterI (lookF refT x.1).1 k) (nthA x.2.2.2 k))))
  have HTA : Hid (T n = wtO (tksI x)) := by show _ = _; rw [hT, ← hl]; exact wtO_all x
  have HT0 : Hid (T 0 = ((⟨#[37]⟩ ++ dgS x.2.2.1) ++ ⟨#[32, 61, 32]⟩) ++ (lookF refT x.1).1.1) := by
    show _ = _
    rw [hT, List.take_zero, List.append_nil, wtO_pre, hrs, hty]
    apply strI_inj
    have a4 : strI (⟨#[]⟩ : ByteArray) = [] := rfl
    simp [strI_append, a4]
  have HDZ := hide (And.intro (dgS_size hx.2.2.2.2.2.1) (dgS_size hx.2.2.2.1))
  have HAZ := hide fun k (h : k < n) => dgS_size (hx.2.2.2.2.2.2.1 k (by omega)).2.2.2.1
  have HNM : Hid ((lookF refT x.1).1.1.size ≤ 1000) := (name_op hk).choose_spec.2.2.2.1
  have HOf := hide hOf
  have HV := hide hv
  have HL := hide hl
  have HQ : Hid (∀ r : ByteArray, r = T n → r = wtO (tksI x)) := fun r h => h.trans HTA.out
  clear hOf hT HTA hsz hx hk hv hl
  generalize wtO (tksI x) = RES at *
  generalize (lookF refT x.1).1 = f at *
  obtain ⟨nm, ty, rs, fx, rp, mo, pa⟩ := f
  simp only at hrs hty HOf HT0 HNM
  subst hrs hty
  obtain ⟨xo, xt, xr, l⟩ := x
  simp only at HDR HDT HDA HLE HAS HTN HT0 HOf HV HL HDZ HAZ ⊢
  have hba : Below w.heap.size w (w.alloc (.cells #[.int .u16 xo, .int .u32 xt, .int .u32 xr, .slice ax n cx] 41)) := (Below.refl _ w).alloc (Nat.le_refl _) _
  have HM0 := hide (heap_alloc_new w (.cells #[.int .u16 xo, .int .u32 xt, .int .u32 xr, .slice ax n cx] 41))
  have HB0 := hide hba
  have hof := HOf.out (w.alloc (.cells #[.int .u16 xo, .int .u32 xt, .int .u32 xr, .slice ax n cx] 41))
  clear hba HOf
  go_enter Tryz.func10, Tryz.ntmps10
  go_wp2_with fail
  generalize w.alloc (.cells #[.int .u16 xo, .int .u32 xt, .int .u32 xr, .slice ax n cx] 41) = W0 at *
  refine hof.mono ?_
  rintro e w1 ⟨rfl, hb1⟩
  have hba1 : Below w1.heap.size w1 (w1.alloc (.cells #[.int .u16 xo, .string nm, .bool false, .bool true, .string fx, .string rp, .int .i64 mo, .int .u8 pa] 58)) := (Below.refl _ w1).alloc (Nat.le_refl _) _
  have hb01 := hb1.trans (hba1.mono hb1.size)
  have HW : Hid (WrB w (w1.alloc (.cells #[.int .u16 xo, .string nm, .bool false, .bool true, .string fx, .string rp, .int .i64 mo, .int .u8 pa] 58)) xo xt xr ax n cx w1.heap.size (nm, false, true, fx, rp, mo, pa) l) := ⟨(hb01.block _ (Array.getElem?_eq_some_iff.1 HM0.out).1).trans HM0.out, heap_alloc_new w1 _, (HV.out.below HB0.out).below hb01, HB0.out.trans (hb01.mono HB0.out.size)⟩
  have i1 := (one_block HW.out.ibox).1 1
  have zn := HNM.out
  obtain ⟨zr, zt⟩ := HDZ.out
  have i2 := (one_block HW.out.ibox).1 2
  have i3 := (one_block HW.out.ibox).1 3
  clear hof hb1 hba1 hb01 HM0 HB0 HV
  go_wp2_with fail
  generalize w1.alloc (.cells #[.int .u16 xo, .string nm, .bool false, .bool true, .string fx, .string rp, .int .i64 mo, .int .u8 pa] 58) = W1 at *
  refine (HDR.out W1).mono ?_
  rintro e w2 ⟨rfl, hb2⟩
  have HW2 := hide (HW.out.below hb2)
  clear hb2 HW i1 i2 i3
  have i1 := (one_block HW2.out.ibox).1 1
  have i3 := (one_block HW2.out.ibox).1 3
  obtain ⟨f0, f1, f2, f3, f4, f5, f6, f7⟩ := frm_cells HW2.out.fbox
  clear f0 f4 f5 f6 f7
  go_wp2_with fail
  clear i3
  generalize w1.heap.size = FBX at *
  go_loopw [5, 6] (fun s i wr => ∃ k : Nat, k ≤ n ∧ i = .int .i64 k ∧ s = .string (T k) ∧ WrB w wr xo xt xr ax n cx FBX (nm, false, true, fx, rp, mo, pa) l) (fun _ i _ => n - (intOf i).toNat)
  case atStart => exact ⟨0, Nat.zero_le _, rfl, by rw [HT0.out], HW2.out⟩
  case round =>
    obtain ⟨k, hk, rfl, rfl, hR⟩ := hrel
    clear HW2
    have HR := hide hR
    have i3 := (one_block hR.ibox).1 3
    have i0 := (one_block hR.ibox).1 0
    have hTk := HTZ.out k
    by_cases hlt : k < n
    · have HLT := hide hlt
      have hki : (k : Int) < (n : Int) := by omega
      have hk0 : (0 : Int) ≤ (k : Int) := by omega
      obtain ⟨b, o, rfl, hbs, a0, a1, a2⟩ := hR.av k (by rw [HL.out]; exact hlt)
      have hTn := HTN.out k hlt
      have hda := hide fun wx => HDA.out wx k hlt
      have haz := HAZ.out k hlt
      have has := HAS.out k hlt
      have hle := hide fun wx => HLE.out wx k hlt
      generalize nthA l k = y at *
      have hba : Below wr.heap.size wr (wr.alloc (.cells #[.int .u8 y.1, .int .u32 y.2.1, .string y.2.2] 62)) := (Below.refl _ wr).alloc (Nat.le_refl _) _
      have HRA := hide (hR.below hba)
      have hab := heap_alloc_new wr (.cells #[.int .u8 y.1, .int .u32 y.2.1, .string y.2.2] 62)
      clear hR hba
      by_cases h1 : y.1 = 1
      · have HE : Hid (T (k + 1) = (T k ++ ⟨#[32, 37]⟩) ++ dgS y.2.1) := by show _ = _; rw [hTn, piece1 h1, ByteArray.append_assoc]
        obtain ⟨y0, y1, y2⟩ := y
        simp only at h1 a0 a1 a2 hTn hda haz has HRA HE
        subst h1
        have hd := hda.out (wr.alloc (.cells #[.int .u8 1, .int .u32 y1, .string y2] 62))
        clear hTn hab
        go_wp2_with fail
        generalize wr.alloc (.cells #[.int .u8 1, .int .u32 y1, .string y2] 62) = WA at *
        refine hd.mono ?_
        rintro e w4 ⟨rfl, hb4⟩
        have HR4 := hide (HRA.out.below hb4)
        clear hd hb4 HRA i3 i0 a0 a1 a2
        go_wp2_with fail
        go_roundw
        case rel => exact ⟨k + 1, by have := HLT.out; omega, by go_num, by rw [HE.out], HR4.out⟩
        case measure => have := HLT.out; simp [intOf]; omega
      by_cases h2 : y.1 = 2
      · have HE : Hid (T (k + 1) = (T k ++ ⟨#[32]⟩) ++ dgS y.2.1) := by show _ = _; rw [hTn, piece2 h2, ByteArray.append_assoc]
        obtain ⟨y0, y1, y2⟩ := y
        simp only at h2 a0 a1 a2 hTn hda haz has HRA HE
        subst h2
        have hd := hda.out (wr.alloc (.cells #[.int .u8 2, .int .u32 y1, .string y2] 62))
        clear hTn hab h1
        go_wp2_with fail
        generalize wr.alloc (.cells #[.int .u8 2, .int .u32 y1, .string y2] 62) = WA at *
        refine hd.mono ?_
        rintro e w4 ⟨rfl, hb4⟩
        have HR4 := hide (HRA.out.below hb4)
        clear hd hb4 HRA i3 i0 a0 a1 a2
        go_wp2_with fail
        go_roundw
        case rel => exact ⟨k + 1, by have := HLT.out; omega, by go_num, by rw [HE.out], HR4.out⟩
        case measure => have := HLT.out; simp [intOf]; omega
      by_cases h3 : y.1 = 3
      · have HE : Hid (T (k + 1) = ((T k ++ ⟨#[32, 34]⟩) ++ hxS y.2.2 y.2.2.size) ++ ⟨#[34]⟩) := by show _ = _; rw [hTn, piece3 h3, ByteArray.append_assoc, ByteArray.append_assoc, ByteArray.append_assoc]
        obtain ⟨y0, y1, y2⟩ := y
        simp only at h3 a0 a1 a2 hTn hda haz has HRA HE hab
        subst h3
        have HAB := hide hab
        clear hTn hab h1 h2 i0
        go_wp2_with fail
        generalize wr.alloc (.cells #[.int .u8 3, .int .u32 y1, .string y2] 62) = WA at *
        generalize wr.heap.size = AB at *
        rename World => wo
        clear i3 a0 a1 a2
        go_loopw [8, 9] (fun q i wr => ∃ j : Nat, j ≤ y2.size ∧ i = .int .i64 j ∧ q = .string (hxS y2 j) ∧ WrB w wr xo xt xr (some ⟨b, o, none⟩) n cx FBX (nm, false, true, fx, rp, mo, pa) l ∧ wr.heap[AB]? = some (.cells #[.int .u8 3, .int .u32 y1, .string y2] 62 (0, 0))) (fun _ i _ => y2.size - (intOf i).toNat)
        case atStart => exact ⟨0, Nat.zero_le _, rfl, by rw [hxS_zero], HRA.out, HAB.out⟩
        case round =>
          obtain ⟨j, hj, rfl, rfl, hR, hA⟩ := hrel
          have HR2 := hide hR
          have HA2 := hide hA
          have c2 := (one_block hA).1 2
          have hzq := hxS_size y2 j
          clear hR hA HRA HAB
          by_cases hjl : j < y2.size
          · have hjn := hxS_next y2 j hjl
            have HJ := hide hjl
            have hcb := y2[j].toNat_lt
            have hji : (j : Int) < (y2.size : Int) := by omega
            have hj0 : (0 : Int) ≤ (j : Int) := by omega
            have HJN := hide hjn
            have q1 : IntKind.u8.wrap ((y2[j].toNat : Int) / 16) = (y2[j].toNat : Int) / 16 := by rw [IntKind.wrap_u8]; omega
            have q2 : Int.tmod (y2[j].toNat : Int) 16 = (y2[j].toNat : Int) % 16 := Int.tmod_eq_emod_of_nonneg (by omega)
            have q3 : IntKind.u8.wrap ((y2[j].toNat : Int) / 16 + 1) = (y2[j].toNat : Int) / 16 + 1 := by rw [IntKind.wrap_u8]; omega
            have q4 : IntKind.u8.wrap ((y2[j].toNat : Int) % 16 + 1) = (y2[j].toNat : Int) % 16 + 1 := by rw [IntKind.wrap_u8]; omega
            have q5 : IntKind.u8.wrap ((y2[j].toNat : Int) % 16) = (y2[j].toNat : Int) % 16 := by rw [IntKind.wrap_u8]; omega
            clear hjn
            go_wp2_with fail
            go_quiet (fail)
            clear q1 q2 q3 q4 q5
            go_wp2_with fail
            have hbq : Below wr.heap.size wr (wr.drewN nq) := bel_drewN (Below.refl _ wr) nq
            exact ⟨⟨j + 1, HJ.out, rfl, by rw [HJN.out]; rfl, HR2.out.below hbq, (hbq.block _ (Array.getElem?_eq_some_iff.1 HA2.out).1).trans HA2.out⟩, by have := HJ.out; simp [intOf]; omega⟩
          · obtain rfl : j = y2.size := by omega
            go_wp2_with fail
            go_roundw
            case rel => exact ⟨k + 1, by have := HLT.out; omega, by go_num, by rw [HE.out], HR2.out⟩
            case measure => have := HLT.out; simp [intOf]; omega
      · have HE : Hid (T (k + 1) = (T k ++ ⟨#[32]⟩) ++ enumS (letterI (nm, false, true, fx, rp, mo, pa) (k : Int)) y.2.1) := by show _ = _; rw [hTn, piece4 h1 h2 h3, ByteArray.append_assoc]
        obtain ⟨y0, y1, y2⟩ := y
        simp only at h1 h2 h3 a0 a1 a2 hTn hda haz has HRA HE hab
        have g1 : (y0 == 1) = false := by simpa using h1
        have g2 : (y0 == 2) = false := by simpa using h2
        have g3 : (y0 == 3) = false := by simpa using h3
        have HAB := hide hab
        have hen := hide fun wx => HEN.out wx (letterI (nm, false, true, fx, rp, mo, pa) (k : Int)) y1
        generalize letterI (nm, false, true, fx, rp, mo, pa) (k : Int) = c at *
        have hez := enumS_size c y1
        clear hTn hab h1 h2 h3 i0
        go_wp2_with fail
        generalize wr.alloc (.cells #[.int .u8 y0, .int .u32 y1, .string y2] 62) = WA at *
        generalize wr.heap.size = AB at *
        clear i3 a0 a1 a2
        have hK : ∀ wx, Below WA.heap.size WA wx → (wx.cell? ⟨w.heap.size, 0, none⟩ = some (.int .u16 xo) ∧ wx.cell? ⟨AB, 1, none⟩ = some (.int .u32 y1)) := fun wx h => ⟨(one_block (HRA.out.below h).ibox).1 0, (one_block ((h.block _ (Array.getElem?_eq_some_iff.1 HAB.out).1).trans HAB.out)).1 1⟩
        have hd := below_drew WA
        go_region_held2 (fun wx => Below WA.heap.size WA wx ∧ (wx.cell? ⟨w.heap.size, 0, none⟩ = some (.int .u16 xo) ∧ wx.cell? ⟨AB, 1, none⟩ = some (.int .u32 y1)))
          (exact ⟨by assumption, hK _ (by assumption)⟩)
          (first
            | (go_at_call 21; with_reducible refine (hle.out _).mono ?_; rintro e w' ⟨rfl, hbx⟩; have hby := growW (by assumption) hbx; clear hbx)
            | (go_at_call 20; with_reducible refine (hen.out _).mono ?_; rintro e w' ⟨rfl, hbx⟩; have hby := growW (by assumption) hbx; clear hbx))
        rename World => w4
        have hb4 : Below WA.heap.size WA w4 := by assumption
        have HR4 := hide (HRA.out.below hb4)
        clear hK hd hb4 HRA HAB
        go_wp2_with fail
        go_roundw
        case rel => exact ⟨k + 1, by have := HLT.out; omega, by go_num, by rw [HE.out], HR4.out⟩
        case measure => have := HLT.out; simp [intOf]; omega
    · obtain rfl : k = n := by omega
      have HB := hide hR.bel
      clear hR HR
      go_wp2_with fail
      go_ret
      exact ⟨by rw [HQ.out _ rfl]; rfl, HB.out⟩

end Go.Proofs.YtddackdadebjjaaGreat

/-
  Written of the document: an instruction's line. Here: the form has a result: false, a type: true.
-/
namespace Go.Proofs.YtddackdadebjjaaGreat
open Go.RowKit
set_option linter.unusedSimpArgs false
set_option maxRecDepth 10000
set_option linter.unusedVariables false

set_option maxHeartbeats 8000000 in
theorem refWritten7_ft (x : InstT) (ax : Option Addr) (n cx : Nat) (w : World) (hv : ArgsV w ax x.2.2.2) (hl : x.2.2.2.length = n) (hn : n ≤ 140737488351232) (hx : InstOk x) (hk : (lookF refT x.1).2 = true) (hsz : (wtAll (tksI x)).length ≤ 1099511627776) (hrs : (lookF refT x.1).1.2.2.1 = false) (hty : (lookF refT x.1).1.2.1 = true) :
    Calls Tryz.prog 10 #[.agg #[.int .u16 x.1, .int .u32 x.2.1, .int .u32 x.2.2.1, .slice ax n cx]] w fun e w' => e = .returned (.string (wtO (tksI x))) ∧ Below w.heap.size w w' := by
  have hOf := fun wx => refOf_any x.1 wx
  unfold ofV formV at hOf
  rw [hk, if_pos rfl] at hOf
  have HDR := hide fun wx => refDigitsI_any x.2.2.1 wx hx.2.2.2.2.1 hx.2.2.2.2.2.1
  have HDT := hide fun wx => refDigitsI_any x.2.1 wx hx.2.2.1 hx.2.2.2.1
  have HDA := hide fun wx k (h : k < n) => refDigitsI_any (nthA x.2.2.2 k).2.1 wx (hx.2.2.2.2.2.2.1 k (by omega)).2.2.1 (hx.2.2.2.2.2.2.1 k (by omega)).2.2.2.1
  have HLE := hide fun wx k (h : k < n) => refLetter_any x.1 ((k : Nat) : Int) wx (by omega)
  have HEN := hide fun wx c v => refEnum_any c v wx
  have HAS := hide fun k (h : k < n) => (hx.2.2.2.2.2.2.1 k (by omega)).2.2.2.2
  obtain ⟨T, hT⟩ : ∃ T : Nat → ByteArray, ∀ k, T k = wtO (preTk (lookF refT x.1).1 x ++ (argTks (lookF refT x.1).1 x.2.2.2).take k) := ⟨_, fun _ => rfl⟩
  have HTZ := hide fun k => (by rw [hT]; exact wtO_front x k hsz : (T k).size ≤ 1099511627776)
  have HTN := hide fun k (h : k < n) => (by rw [hT, hT]; exact wtO_arg x k (by omega) : T (k + 1) = T k ++ strOfNums (32 :: wtS (argTk (letterI (lookF refT x.1).1 k) (nthA x.2.2.2 k))))
  have HTA : Hid (T n = wtO (tksI x)) := by show _ = _; rw [hT, ← hl]; exact wtO_all x
  have HT0 : Hid (T 0 = (((⟨#[]⟩) ++ (lookF refT x.1).1.1) ++ ⟨#[32, 37]⟩) ++ dgS x.2.1) := by
    show _ = _
    rw [hT, List.take_zero, List.append_nil, wtO_pre, hrs, hty]
    apply strI_inj
    have a4 : strI (⟨#[]⟩ : ByteArray) = [] := rfl
    simp [strI_append, a4]
  have HDZ := hide (And.intro (dgS_size hx.2.2.2.2.2.1) (dgS_size hx.2.2.2.1))
  have HAZ := hide fun k (h : k < n) => dgS_size (hx.2.2.2.2.2.2.1 k (by omega)).2.2.2.1
  have HNM : Hid ((lookF refT x.1).1.1.size ≤ 1000) := (name_op hk).choose_spec.2.2.2.1
  have HOf := hide hOf
  have HV := hide hv
  have HL := hide hl
  have HQ : Hid (∀ r : ByteArray, r = T n → r = wtO (tksI x)) := fun r h => h.trans HTA.out
  clear hOf hT HTA hsz hx hk hv hl
  generalize wtO (tksI x) = RES at *
  generalize (lookF refT x.1).1 = f at *
  obtain ⟨nm, ty, rs, fx, rp, mo, pa⟩ := f
  simp only at hrs hty HOf HT0 HNM
  subst hrs hty
  obtain ⟨xo, xt, xr, l⟩ := x
  simp only at HDR HDT HDA HLE HAS HTN HT0 HOf HV HL HDZ HAZ ⊢
  have hba : Below w.heap.size w (w.alloc (.cells #[.int .u16 xo, .int .u32 xt, .int .u32 xr, .slice ax n cx] 41)) := (Below.refl _ w).alloc (Nat.le_refl _) _
  have HM0 := hide (heap_alloc_new w (.cells #[.int .u16 xo, .int .u32 xt, .int .u32 xr, .slice ax n cx] 41))
  have HB0 := hide hba
  have hof := HOf.out (w.alloc (.cells #[.int .u16 xo, .int .u32 xt, .int .u32 xr, .slice ax n cx] 41))
  clear hba HOf
  go_enter Tryz.func10, Tryz.ntmps10
  go_wp2_with fail
  generalize w.alloc (.cells #[.int .u16 xo, .int .u32 xt, .int .u32 xr, .slice ax n cx] 41) = W0 at *
  refine hof.mono ?_
  rintro e w1 ⟨rfl, hb1⟩
  have hba1 : Below w1.heap.size w1 (w1.alloc (.cells #[.int .u16 xo, .string nm, .bool true, .bool false, .string fx, .string rp, .int .i64 mo, .int .u8 pa] 58)) := (Below.refl _ w1).alloc (Nat.le_refl _) _
  have hb01 := hb1.trans (hba1.mono hb1.size)
  have HW : Hid (WrB w (w1.alloc (.cells #[.int .u16 xo, .string nm, .bool true, .bool false, .string fx, .string rp, .int .i64 mo, .int .u8 pa] 58)) xo xt xr ax n cx w1.heap.size (nm, true, false, fx, rp, mo, pa) l) := ⟨(hb01.block _ (Array.getElem?_eq_some_iff.1 HM0.out).1).trans HM0.out, heap_alloc_new w1 _, (HV.out.below HB0.out).below hb01, HB0.out.trans (hb01.mono HB0.out.size)⟩
  have i1 := (one_block HW.out.ibox).1 1
  have zn := HNM.out
  obtain ⟨zr, zt⟩ := HDZ.out
  have i2 := (one_block HW.out.ibox).1 2
  have i3 := (one_block HW.out.ibox).1 3
  clear hof hb1 hba1 hb01 HM0 HB0 HV
  go_wp2_with fail
  generalize w1.alloc (.cells #[.int .u16 xo, .string nm, .bool true, .bool false, .string fx, .string rp, .int .i64 mo, .int .u8 pa] 58) = W1 at *
  refine (HDT.out W1).mono ?_
  rintro e w3 ⟨rfl, hb3⟩
  have HW3 := hide (HW.out.below hb3)
  clear hb3 HW
  clear i1 i2 i3
  have i3 := (one_block HW3.out.ibox).1 3
  obtain ⟨f0, f1, f2, f3, f4, f5, f6, f7⟩ := frm_cells HW3.out.fbox
  clear f0 f4 f5 f6 f7
  go_wp2_with fail
  clear i3
  generalize w1.heap.size = FBX at *
  go_loopw [5, 6] (fun s i wr => ∃ k : Nat, k ≤ n ∧ i = .int .i64 k ∧ s = .string (T k) ∧ WrB w wr xo xt xr ax n cx FBX (nm, true, false, fx, rp, mo, pa) l) (fun _ i _ => n - (intOf i).toNat)
  case atStart => exact ⟨0, Nat.zero_le _, rfl, by rw [HT0.out], HW3.out⟩
  case round =>
    obtain ⟨k, hk, rfl, rfl, hR⟩ := hrel
    clear HW3
    have HR := hide hR
    have i3 := (one_block hR.ibox).1 3
    have i0 := (one_block hR.ibox).1 0
    have hTk := HTZ.out k
    by_cases hlt : k < n
    · have HLT := hide hlt
      have hki : (k : Int) < (n : Int) := by omega
      have hk0 : (0 : Int) ≤ (k : Int) := by omega
      obtain ⟨b, o, rfl, hbs, a0, a1, a2⟩ := hR.av k (by rw [HL.out]; exact hlt)
      have hTn := HTN.out k hlt
      have hda := hide fun wx => HDA.out wx k hlt
      have haz := HAZ.out k hlt
      have has := HAS.out k hlt
      have hle := hide fun wx => HLE.out wx k hlt
      generalize nthA l k = y at *
      have hba : Below wr.heap.size wr (wr.alloc (.cells #[.int .u8 y.1, .int .u32 y.2.1, .string y.2.2] 62)) := (Below.refl _ wr).alloc (Nat.le_refl _) _
      have HRA := hide (hR.below hba)
      have hab := heap_alloc_new wr (.cells #[.int .u8 y.1, .int .u32 y.2.1, .string y.2.2] 62)
      clear hR hba
      by_cases h1 : y.1 = 1
      · have HE : Hid (T (k + 1) = (T k ++ ⟨#[32, 37]⟩) ++ dgS y.2.1) := by show _ = _; rw [hTn, piece1 h1, ByteArray.append_assoc]
        obtain ⟨y0, y1, y2⟩ := y
        simp only at h1 a0 a1 a2 hTn hda haz has HRA HE
        subst h1
        have hd := hda.out (wr.alloc (.cells #[.int .u8 1, .int .u32 y1, .string y2] 62))
        clear hTn hab
        go_wp2_with fail
        generalize wr.alloc (.cells #[.int .u8 1, .int .u32 y1, .string y2] 62) = WA at *
        refine hd.mono ?_
        rintro e w4 ⟨rfl, hb4⟩
        have HR4 := hide (HRA.out.below hb4)
        clear hd hb4 HRA i3 i0 a0 a1 a2
        go_wp2_with fail
        go_roundw
        case rel => exact ⟨k + 1, by have := HLT.out; omega, by go_num, by rw [HE.out], HR4.out⟩
        case measure => have := HLT.out; simp [intOf]; omega
      by_cases h2 : y.1 = 2
      · have HE : Hid (T (k + 1) = (T k ++ ⟨#[32]⟩) ++ dgS y.2.1) := by show _ = _; rw [hTn, piece2 h2, ByteArray.append_assoc]
        obtain ⟨y0, y1, y2⟩ := y
        simp only at h2 a0 a1 a2 hTn hda haz has HRA HE
        subst h2
        have hd := hda.out (wr.alloc (.cells #[.int .u8 2, .int .u32 y1, .string y2] 62))
        clear hTn hab h1
        go_wp2_with fail
        generalize wr.alloc (.cells #[.int .u8 2, .int .u32 y1, .string y2] 62) = WA at *
        refine hd.mono ?_
        rintro e w4 ⟨rfl, hb4⟩
        have HR4 := hide (HRA.out.below hb4)
        clear hd hb4 HRA i3 i0 a0 a1 a2
        go_wp2_with fail
        go_roundw
        case rel => exact ⟨k + 1, by have := HLT.out; omega, by go_num, by rw [HE.out], HR4.out⟩
        case measure => have := HLT.out; simp [intOf]; omega
      by_cases h3 : y.1 = 3
      · have HE : Hid (T (k + 1) = ((T k ++ ⟨#[32, 34]⟩) ++ hxS y.2.2 y.2.2.size) ++ ⟨#[34]⟩) := by show _ = _; rw [hTn, piece3 h3, ByteArray.append_assoc, ByteArray.append_assoc, ByteArray.append_assoc]
        obtain ⟨y0, y1, y2⟩ := y
        simp only at h3 a0 a1 a2 hTn hda haz has HRA HE hab
        subst h3
        have HAB := hide hab
        clear hTn hab h1 h2 i0
        go_wp2_with fail
        generalize wr.alloc (.cells #[.int .u8 3, .int .u32 y1, .string y2] 62) = WA at *
        generalize wr.heap.size = AB at *
        rename World => wo
        clear i3 a0 a1 a2
        go_loopw [8, 9] (fun q i wr => ∃ j : Nat, j ≤ y2.size ∧ i = .int .i64 j ∧ q = .string (hxS y2 j) ∧ WrB w wr xo xt xr (some ⟨b, o, none⟩) n cx FBX (nm, true, false, fx, rp, mo, pa) l ∧ wr.heap[AB]? = some (.cells #[.int .u8 3, .int .u32 y1, .string y2] 62 (0, 0))) (fun _ i _ => y2.size - (intOf i).toNat)
        case atStart => exact ⟨0, Nat.zero_le _, rfl, by rw [hxS_zero], HRA.out, HAB.out⟩
        case round =>
          obtain ⟨j, hj, rfl, rfl, hR, hA⟩ := hrel
          have HR2 := hide hR
          have HA2 := hide hA
          have c2 := (one_block hA).1 2
          have hzq := hxS_size y2 j
          clear hR hA HRA HAB
          by_cases hjl : j < y2.size
          · have hjn := hxS_next y2 j hjl
            have HJ := hide hjl
            have hcb := y2[j].toNat_lt
            have hji : (j : Int) < (y2.size : Int) := by omega
            have hj0 : (0 : Int) ≤ (j : Int) := by omega
            have HJN := hide hjn
            have q1 : IntKind.u8.wrap ((y2[j].toNat : Int) / 16) = (y2[j].toNat : Int) / 16 := by rw [IntKind.wrap_u8]; omega
            have q2 : Int.tmod (y2[j].toNat : Int) 16 = (y2[j].toNat : Int) % 16 := Int.tmod_eq_emod_of_nonneg (by omega)
            have q3 : IntKind.u8.wrap ((y2[j].toNat : Int) / 16 + 1) = (y2[j].toNat : Int) / 16 + 1 := by rw [IntKind.wrap_u8]; omega
            have q4 : IntKind.u8.wrap ((y2[j].toNat : Int) % 16 + 1) = (y2[j].toNat : Int) % 16 + 1 := by rw [IntKind.wrap_u8]; omega
            have q5 : IntKind.u8.wrap ((y2[j].toNat : Int) % 16) = (y2[j].toNat : Int) % 16 := by rw [IntKind.wrap_u8]; omega
            clear hjn
            go_wp2_with fail
            go_quiet (fail)
            clear q1 q2 q3 q4 q5
            go_wp2_with fail
            have hbq : Below wr.heap.size wr (wr.drewN nq) := bel_drewN (Below.refl _ wr) nq
            exact ⟨⟨j + 1, HJ.out, rfl, by rw [HJN.out]; rfl, HR2.out.below hbq, (hbq.block _ (Array.getElem?_eq_some_iff.1 HA2.out).1).trans HA2.out⟩, by have := HJ.out; simp [intOf]; omega⟩
          · obtain rfl : j = y2.size := by omega
            go_wp2_with fail
            go_roundw
            case rel => exact ⟨k + 1, by have := HLT.out; omega, by go_num, by rw [HE.out], HR2.out⟩
            case measure => have := HLT.out; simp [intOf]; omega
      · have HE : Hid (T (k + 1) = (T k ++ ⟨#[32]⟩) ++ enumS (letterI (nm, true, false, fx, rp, mo, pa) (k : Int)) y.2.1) := by show _ = _; rw [hTn, piece4 h1 h2 h3, ByteArray.append_assoc]
        obtain ⟨y0, y1, y2⟩ := y
        simp only at h1 h2 h3 a0 a1 a2 hTn hda haz has HRA HE hab
        have g1 : (y0 == 1) = false := by simpa using h1
        have g2 : (y0 == 2) = false := by simpa using h2
        have g3 : (y0 == 3) = false := by simpa using h3
        have HAB := hide hab
        have hen := hide fun wx => HEN.out wx (letterI (nm, true, false, fx, rp, mo, pa) (k : Int)) y1
        generalize letterI (nm, true, false, fx, rp, mo, pa) (k : Int) = c at *
        have hez := enumS_size c y1
        clear hTn hab h1 h2 h3 i0
        go_wp2_with fail
        generalize wr.alloc (.cells #[.int .u8 y0, .int .u32 y1, .string y2] 62) = WA at *
        generalize wr.heap.size = AB at *
        clear i3 a0 a1 a2
        have hK : ∀ wx, Below WA.heap.size WA wx → (wx.cell? ⟨w.heap.size, 0, none⟩ = some (.int .u16 xo) ∧ wx.cell? ⟨AB, 1, none⟩ = some (.int .u32 y1)) := fun wx h => ⟨(one_block (HRA.out.below h).ibox).1 0, (one_block ((h.block _ (Array.getElem?_eq_some_iff.1 HAB.out).1).trans HAB.out)).1 1⟩
        have hd := below_drew WA
        go_region_held2 (fun wx => Below WA.heap.size WA wx ∧ (wx.cell? ⟨w.heap.size, 0, none⟩ = some (.int .u16 xo) ∧ wx.cell? ⟨AB, 1, none⟩ = some (.int .u32 y1)))
          (exact ⟨by assumption, hK _ (by assumption)⟩)
          (first
            | (go_at_call 21; with_reducible refine (hle.out _).mono ?_; rintro e w' ⟨rfl, hbx⟩; have hby := growW (by assumption) hbx; clear hbx)
            | (go_at_call 20; with_reducible refine (hen.out _).mono ?_; rintro e w' ⟨rfl, hbx⟩; have hby := growW (by assumption) hbx; clear hbx))
        rename World => w4
        have hb4 : Below WA.heap.size WA w4 := by assumption
        have HR4 := hide (HRA.out.below hb4)
        clear hK hd hb4 HRA HAB
        go_wp2_with fail
        go_roundw
        case rel => exact ⟨k + 1, by have := HLT.out; omega, by go_num, by rw [HE.out], HR4.out⟩
        case measure => have := HLT.out; simp [intOf]; omega
    · obtain rfl : k = n := by omega
      have HB := hide hR.bel
      clear hR HR
      go_wp2_with fail
      go_ret
      exact ⟨by rw [HQ.out _ rfl]; rfl, HB.out⟩

end Go.Proofs.YtddackdadebjjaaGreat

/-
  Written of the document: an instruction's line. Here: the form has a result: false, a type: false.
-/
namespace Go.Proofs.YtddackdadebjjaaGreat
open Go.RowKit
set_option linter.unusedSimpArgs false
set_option maxRecDepth 10000
set_option linter.unusedVariables false

set_option maxHeartbeats 8000000 in
theorem refWritten7_ff (x : InstT) (ax : Option Addr) (n cx : Nat) (w : World) (hv : ArgsV w ax x.2.2.2) (hl : x.2.2.2.length = n) (hn : n ≤ 140737488351232) (hx : InstOk x) (hk : (lookF refT x.1).2 = true) (hsz : (wtAll (tksI x)).length ≤ 1099511627776) (hrs : (lookF refT x.1).1.2.2.1 = false) (hty : (lookF refT x.1).1.2.1 = false) :
    Calls Tryz.prog 10 #[.agg #[.int .u16 x.1, .int .u32 x.2.1, .int .u32 x.2.2.1, .slice ax n cx]] w fun e w' => e = .returned (.string (wtO (tksI x))) ∧ Below w.heap.size w w' := by
  have hOf := fun wx => refOf_any x.1 wx
  unfold ofV formV at hOf
  rw [hk, if_pos rfl] at hOf
  have HDR := hide fun wx => refDigitsI_any x.2.2.1 wx hx.2.2.2.2.1 hx.2.2.2.2.2.1
  have HDT := hide fun wx => refDigitsI_any x.2.1 wx hx.2.2.1 hx.2.2.2.1
  have HDA := hide fun wx k (h : k < n) => refDigitsI_any (nthA x.2.2.2 k).2.1 wx (hx.2.2.2.2.2.2.1 k (by omega)).2.2.1 (hx.2.2.2.2.2.2.1 k (by omega)).2.2.2.1
  have HLE := hide fun wx k (h : k < n) => refLetter_any x.1 ((k : Nat) : Int) wx (by omega)
  have HEN := hide fun wx c v => refEnum_any c v wx
  have HAS := hide fun k (h : k < n) => (hx.2.2.2.2.2.2.1 k (by omega)).2.2.2.2
  obtain ⟨T, hT⟩ : ∃ T : Nat → ByteArray, ∀ k, T k = wtO (preTk (lookF refT x.1).1 x ++ (argTks (lookF refT x.1).1 x.2.2.2).take k) := ⟨_, fun _ => rfl⟩
  have HTZ := hide fun k => (by rw [hT]; exact wtO_front x k hsz : (T k).size ≤ 1099511627776)
  have HTN := hide fun k (h : k < n) => (by rw [hT, hT]; exact wtO_arg x k (by omega) : T (k + 1) = T k ++ strOfNums (32 :: wtS (argTk (letterI (lookF refT x.1).1 k) (nthA x.2.2.2 k))))
  have HTA : Hid (T n = wtO (tksI x)) := by show _ = _; rw [hT, ← hl]; exact wtO_all x
  have HT0 : Hid (T 0 = (⟨#[]⟩) ++ (lookF refT x.1).1.1) := by
    show _ = _
    rw [hT, List.take_zero, List.append_nil, wtO_pre, hrs, hty]
    apply strI_inj
    have a4 : strI (⟨#[]⟩ : ByteArray) = [] := rfl
    simp [strI_append, a4]
  have HDZ := hide (And.intro (dgS_size hx.2.2.2.2.2.1) (dgS_size hx.2.2.2.1))
  have HAZ := hide fun k (h : k < n) => dgS_size (hx.2.2.2.2.2.2.1 k (by omega)).2.2.2.1
  have HNM : Hid ((lookF refT x.1).1.1.size ≤ 1000) := (name_op hk).choose_spec.2.2.2.1
  have HOf := hide hOf
  have HV := hide hv
  have HL := hide hl
  have HQ : Hid (∀ r : ByteArray, r = T n → r = wtO (tksI x)) := fun r h => h.trans HTA.out
  clear hOf hT HTA hsz hx hk hv hl
  generalize wtO (tksI x) = RES at *
  generalize (lookF refT x.1).1 = f at *
  obtain ⟨nm, ty, rs, fx, rp, mo, pa⟩ := f
  simp only at hrs hty HOf HT0 HNM
  subst hrs hty
  obtain ⟨xo, xt, xr, l⟩ := x
  simp only at HDR HDT HDA HLE HAS HTN HT0 HOf HV HL HDZ HAZ ⊢
  have hba : Below w.heap.size w (w.alloc (.cells #[.int .u16 xo, .int .u32 xt, .int .u32 xr, .slice ax n cx] 41)) := (Below.refl _ w).alloc (Nat.le_refl _) _
  have HM0 := hide (heap_alloc_new w (.cells #[.int .u16 xo, .int .u32 xt, .int .u32 xr, .slice ax n cx] 41))
  have HB0 := hide hba
  have hof := HOf.out (w.alloc (.cells #[.int .u16 xo, .int .u32 xt, .int .u32 xr, .slice ax n cx] 41))
  clear hba HOf
  go_enter Tryz.func10, Tryz.ntmps10
  go_wp2_with fail
  generalize w.alloc (.cells #[.int .u16 xo, .int .u32 xt, .int .u32 xr, .slice ax n cx] 41) = W0 at *
  refine hof.mono ?_
  rintro e w1 ⟨rfl, hb1⟩
  have hba1 : Below w1.heap.size w1 (w1.alloc (.cells #[.int .u16 xo, .string nm, .bool false, .bool false, .string fx, .string rp, .int .i64 mo, .int .u8 pa] 58)) := (Below.refl _ w1).alloc (Nat.le_refl _) _
  have hb01 := hb1.trans (hba1.mono hb1.size)
  have HW : Hid (WrB w (w1.alloc (.cells #[.int .u16 xo, .string nm, .bool false, .bool false, .string fx, .string rp, .int .i64 mo, .int .u8 pa] 58)) xo xt xr ax n cx w1.heap.size (nm, false, false, fx, rp, mo, pa) l) := ⟨(hb01.block _ (Array.getElem?_eq_some_iff.1 HM0.out).1).trans HM0.out, heap_alloc_new w1 _, (HV.out.below HB0.out).below hb01, HB0.out.trans (hb01.mono HB0.out.size)⟩
  have i1 := (one_block HW.out.ibox).1 1
  have zn := HNM.out
  obtain ⟨zr, zt⟩ := HDZ.out
  have i2 := (one_block HW.out.ibox).1 2
  have i3 := (one_block HW.out.ibox).1 3
  clear hof hb1 hba1 hb01 HM0 HB0 HV
  go_wp2_with fail
  generalize w1.alloc (.cells #[.int .u16 xo, .string nm, .bool false, .bool false, .string fx, .string rp, .int .i64 mo, .int .u8 pa] 58) = W1 at *
  clear i3
  generalize w1.heap.size = FBX at *
  go_loopw [5, 6] (fun s i wr => ∃ k : Nat, k ≤ n ∧ i = .int .i64 k ∧ s = .string (T k) ∧ WrB w wr xo xt xr ax n cx FBX (nm, false, false, fx, rp, mo, pa) l) (fun _ i _ => n - (intOf i).toNat)
  case atStart => exact ⟨0, Nat.zero_le _, rfl, by rw [HT0.out], HW.out⟩
  case round =>
    obtain ⟨k, hk, rfl, rfl, hR⟩ := hrel
    clear HW
    have HR := hide hR
    have i3 := (one_block hR.ibox).1 3
    have i0 := (one_block hR.ibox).1 0
    have hTk := HTZ.out k
    by_cases hlt : k < n
    · have HLT := hide hlt
      have hki : (k : Int) < (n : Int) := by omega
      have hk0 : (0 : Int) ≤ (k : Int) := by omega
      obtain ⟨b, o, rfl, hbs, a0, a1, a2⟩ := hR.av k (by rw [HL.out]; exact hlt)
      have hTn := HTN.out k hlt
      have hda := hide fun wx => HDA.out wx k hlt
      have haz := HAZ.out k hlt
      have has := HAS.out k hlt
      have hle := hide fun wx => HLE.out wx k hlt
      generalize nthA l k = y at *
      have hba : Below wr.heap.size wr (wr.alloc (.cells #[.int .u8 y.1, .int .u32 y.2.1, .string y.2.2] 62)) := (Below.refl _ wr).alloc (Nat.le_refl _) _
      have HRA := hide (hR.below hba)
      have hab := heap_alloc_new wr (.cells #[.int .u8 y.1, .int .u32 y.2.1, .string y.2.2] 62)
      clear hR hba
      by_cases h1 : y.1 = 1
      · have HE : Hid (T (k + 1) = (T k ++ ⟨#[32, 37]⟩) ++ dgS y.2.1) := by show _ = _; rw [hTn, piece1 h1, ByteArray.append_assoc]
        obtain ⟨y0, y1, y2⟩ := y
        simp only at h1 a0 a1 a2 hTn hda haz has HRA HE
        subst h1
        have hd := hda.out (wr.alloc (.cells #[.int .u8 1, .int .u32 y1, .string y2] 62))
        clear hTn hab
        go_wp2_with fail
        generalize wr.alloc (.cells #[.int .u8 1, .int .u32 y1, .string y2] 62) = WA at *
        refine hd.mono ?_
        rintro e w4 ⟨rfl, hb4⟩
        have HR4 := hide (HRA.out.below hb4)
        clear hd hb4 HRA i3 i0 a0 a1 a2
        go_wp2_with fail
        go_roundw
        case rel => exact ⟨k + 1, by have := HLT.out; omega, by go_num, by rw [HE.out], HR4.out⟩
        case measure => have := HLT.out; simp [intOf]; omega
      by_cases h2 : y.1 = 2
      · have HE : Hid (T (k + 1) = (T k ++ ⟨#[32]⟩) ++ dgS y.2.1) := by show _ = _; rw [hTn, piece2 h2, ByteArray.append_assoc]
        obtain ⟨y0, y1, y2⟩ := y
        simp only at h2 a0 a1 a2 hTn hda haz has HRA HE
        subst h2
        have hd := hda.out (wr.alloc (.cells #[.int .u8 2, .int .u32 y1, .string y2] 62))
        clear hTn hab h1
        go_wp2_with fail
        generalize wr.alloc (.cells #[.int .u8 2, .int .u32 y1, .string y2] 62) = WA at *
        refine hd.mono ?_
        rintro e w4 ⟨rfl, hb4⟩
        have HR4 := hide (HRA.out.below hb4)
        clear hd hb4 HRA i3 i0 a0 a1 a2
        go_wp2_with fail
        go_roundw
        case rel => exact ⟨k + 1, by have := HLT.out; omega, by go_num, by rw [HE.out], HR4.out⟩
        case measure => have := HLT.out; simp [intOf]; omega
      by_cases h3 : y.1 = 3
      · have HE : Hid (T (k + 1) = ((T k ++ ⟨#[32, 34]⟩) ++ hxS y.2.2 y.2.2.size) ++ ⟨#[34]⟩) := by show _ = _; rw [hTn, piece3 h3, ByteArray.append_assoc, ByteArray.append_assoc, ByteArray.append_assoc]
        obtain ⟨y0, y1, y2⟩ := y
        simp only at h3 a0 a1 a2 hTn hda haz has HRA HE hab
        subst h3
        have HAB := hide hab
        clear hTn hab h1 h2 i0
        go_wp2_with fail
        generalize wr.alloc (.cells #[.int .u8 3, .int .u32 y1, .string y2] 62) = WA at *
        generalize wr.heap.size = AB at *
        rename World => wo
        clear i3 a0 a1 a2
        go_loopw [8, 9] (fun q i wr => ∃ j : Nat, j ≤ y2.size ∧ i = .int .i64 j ∧ q = .string (hxS y2 j) ∧ WrB w wr xo xt xr (some ⟨b, o, none⟩) n cx FBX (nm, false, false, fx, rp, mo, pa) l ∧ wr.heap[AB]? = some (.cells #[.int .u8 3, .int .u32 y1, .string y2] 62 (0, 0))) (fun _ i _ => y2.size - (intOf i).toNat)
        case atStart => exact ⟨0, Nat.zero_le _, rfl, by rw [hxS_zero], HRA.out, HAB.out⟩
        case round =>
          obtain ⟨j, hj, rfl, rfl, hR, hA⟩ := hrel
          have HR2 := hide hR
          have HA2 := hide hA
          have c2 := (one_block hA).1 2
          have hzq := hxS_size y2 j
          clear hR hA HRA HAB
          by_cases hjl : j < y2.size
          · have hjn := hxS_next y2 j hjl
            have HJ := hide hjl
            have hcb := y2[j].toNat_lt
            have hji : (j : Int) < (y2.size : Int) := by omega
            have hj0 : (0 : Int) ≤ (j : Int) := by omega
            have HJN := hide hjn
            have q1 : IntKind.u8.wrap ((y2[j].toNat : Int) / 16) = (y2[j].toNat : Int) / 16 := by rw [IntKind.wrap_u8]; omega
            have q2 : Int.tmod (y2[j].toNat : Int) 16 = (y2[j].toNat : Int) % 16 := Int.tmod_eq_emod_of_nonneg (by omega)
            have q3 : IntKind.u8.wrap ((y2[j].toNat : Int) / 16 + 1) = (y2[j].toNat : Int) / 16 + 1 := by rw [IntKind.wrap_u8]; omega
            have q4 : IntKind.u8.wrap ((y2[j].toNat : Int) % 16 + 1) = (y2[j].toNat : Int) % 16 + 1 := by rw [IntKind.wrap_u8]; omega
            have q5 : IntKind.u8.wrap ((y2[j].toNat : Int) % 16) = (y2[j].toNat : Int) % 16 := by rw [IntKind.wrap_u8]; omega
            clear hjn
            go_wp2_with fail
            go_quiet (fail)
            clear q1 q2 q3 q4 q5
            go_wp2_with fail
            have hbq : Below wr.heap.size wr (wr.drewN nq) := bel_drewN (Below.refl _ wr) nq
            exact ⟨⟨j + 1, HJ.out, rfl, by rw [HJN.out]; rfl, HR2.out.below hbq, (hbq.block _ (Array.getElem?_eq_some_iff.1 HA2.out).1).trans HA2.out⟩, by have := HJ.out; simp [intOf]; omega⟩
          · obtain rfl : j = y2.size := by omega
            go_wp2_with fail
            go_roundw
            case rel => exact ⟨k + 1, by have := HLT.out; omega, by go_num, by rw [HE.out], HR2.out⟩
            case measure => have := HLT.out; simp [intOf]; omega
      · have HE : Hid (T (k + 1) = (T k ++ ⟨#[32]⟩) ++ enumS (letterI (nm, false, false, fx, rp, mo, pa) (k : Int)) y.2.1) := by show _ = _; rw [hTn, piece4 h1 h2 h3, ByteArray.append_assoc]
        obtain ⟨y0, y1, y2⟩ := y
        simp only at h1 h2 h3 a0 a1 a2 hTn hda haz has HRA HE hab
        have g1 : (y0 == 1) = false := by simpa using h1
        have g2 : (y0 == 2) = false := by simpa using h2
        have g3 : (y0 == 3) = false := by simpa using h3
        have HAB := hide hab
        have hen := hide fun wx => HEN.out wx (letterI (nm, false, false, fx, rp, mo, pa) (k : Int)) y1
        generalize letterI (nm, false, false, fx, rp, mo, pa) (k : Int) = c at *
        have hez := enumS_size c y1
        clear hTn hab h1 h2 h3 i0
        go_wp2_with fail
        generalize wr.alloc (.cells #[.int .u8 y0, .int .u32 y1, .string y2] 62) = WA at *
        generalize wr.heap.size = AB at *
        clear i3 a0 a1 a2
        have hK : ∀ wx, Below WA.heap.size WA wx → (wx.cell? ⟨w.heap.size, 0, none⟩ = some (.int .u16 xo) ∧ wx.cell? ⟨AB, 1, none⟩ = some (.int .u32 y1)) := fun wx h => ⟨(one_block (HRA.out.below h).ibox).1 0, (one_block ((h.block _ (Array.getElem?_eq_some_iff.1 HAB.out).1).trans HAB.out)).1 1⟩
        have hd := below_drew WA
        go_region_held2 (fun wx => Below WA.heap.size WA wx ∧ (wx.cell? ⟨w.heap.size, 0, none⟩ = some (.int .u16 xo) ∧ wx.cell? ⟨AB, 1, none⟩ = some (.int .u32 y1)))
          (exact ⟨by assumption, hK _ (by assumption)⟩)
          (first
            | (go_at_call 21; with_reducible refine (hle.out _).mono ?_; rintro e w' ⟨rfl, hbx⟩; have hby := growW (by assumption) hbx; clear hbx)
            | (go_at_call 20; with_reducible refine (hen.out _).mono ?_; rintro e w' ⟨rfl, hbx⟩; have hby := growW (by assumption) hbx; clear hbx))
        rename World => w4
        have hb4 : Below WA.heap.size WA w4 := by assumption
        have HR4 := hide (HRA.out.below hb4)
        clear hK hd hb4 HRA HAB
        go_wp2_with fail
        go_roundw
        case rel => exact ⟨k + 1, by have := HLT.out; omega, by go_num, by rw [HE.out], HR4.out⟩
        case measure => have := HLT.out; simp [intOf]; omega
    · obtain rfl : k = n := by omega
      have HB := hide hR.bel
      clear hR HR
      go_wp2_with fail
      go_ret
      exact ⟨by rw [HQ.out _ rfl]; rfl, HB.out⟩

end Go.Proofs.YtddackdadebjjaaGreat

/-
  Written of the document, for every form.
-/
namespace Go.Proofs.YtddackdadebjjaaGreat
open Go.RowKit
set_option linter.unusedVariables false

theorem refWritten7_any (x : InstT) (ax : Option Addr) (n cx : Nat) (w : World) (hv : ArgsV w ax x.2.2.2) (hl : x.2.2.2.length = n) (hn : n ≤ 140737488351232) (hx : InstOk x) (hk : (lookF refT x.1).2 = true) (hsz : (wtAll (tksI x)).length ≤ 1099511627776) :
    Calls Tryz.prog 10 #[.agg #[.int .u16 x.1, .int .u32 x.2.1, .int .u32 x.2.2.1, .slice ax n cx]] w fun e w' => e = .returned (.string (wtO (tksI x))) ∧ Below w.heap.size w w' := by
  cases hrs : (lookF refT x.1).1.2.2.1 <;> cases hty : (lookF refT x.1).1.2.1
  · exact refWritten7_ff x ax n cx w hv hl hn hx hk hsz hrs hty
  · exact refWritten7_ft x ax n cx w hv hl hn hx hk hsz hrs hty
  · exact refWritten7_tf x ax n cx w hv hl hn hx hk hsz hrs hty
  · exact refWritten7_tt x ax n cx w hv hl hn hx hk hsz hrs hty

end Go.Proofs.YtddackdadebjjaaGreat

/-
  What an argument that is an instruction, or a slice of instructions, holds: all within their bounds, each list within the reach of memory.
-/
namespace Go.Proofs.YtddackdadebjjaaGreat
open Go.ChangeShapes Go.WideShapes Go.ChangeAt Go.RowKit
set_option maxRecDepth 100000

theorem ArgInsts.cellsA : Tryz.prog.cellsOf 62 = 3 := by kernel_rfl
theorem ArgInsts.cells8 : Tryz.prog.cellsOf 5 = 1 := by kernel_rfl
theorem ArgInsts.cells32 : Tryz.prog.cellsOf 22 = 1 := by kernel_rfl
theorem ArgInsts.cellsS : Tryz.prog.cellsOf 9 = 1 := by kernel_rfl
theorem ArgInsts.bytesA : Tryz.prog.bytesOf 62 = 24 := by kernel_rfl
theorem ArgInsts.cells16 : Tryz.prog.cellsOf 38 = 1 := by kernel_rfl
theorem ArgInsts.cellsL : Tryz.prog.cellsOf 39 = 1 := by kernel_rfl

theorem ArgInsts.cellsI : Tryz.prog.cellsOf 41 = 4 := by kernel_rfl
theorem ArgInsts.bytesI : Tryz.prog.bytesOf 41 = 40 := by kernel_rfl

theorem weightsIn {H : Type} {P : Program} {e : TypeId} : ∀ {l : List (DataW H)} {d : DataW H}, d ∈ l → ∀ n ∈ d.weights P e, n ∈ DataW.weightsAll P e l
  | d0 :: l, d, hd, n, hn => by
    simp only [DataW.weightsAll, List.mem_append]
    rcases List.mem_cons.1 hd with rfl | h
    · exact Or.inl hn
    · exact Or.inr (weightsIn h n hn)

theorem argsV_mk {w : World} {x : Addr} {n : Nat} {f : Nat → ArgT} (h : ∀ i, i < n → w.cell? (x.add (i * 3)) = some (.int .u8 (f i).1) ∧ w.cell? (x.add (i * 3 + 1)) = some (.int .u32 (f i).2.1) ∧ w.cell? (x.add (i * 3 + 2)) = some (.string (f i).2.2)) : ArgsV w (some x) ((List.range n).map f) := by
  intro j hj
  rw [List.length_map, List.length_range] at hj
  have h0 := (h 0 (by omega)).1
  obtain ⟨b, off, spot⟩ := x
  have hs : spot = none := by simpa [Addr.add] using World.cell?_spot h0
  subst hs
  obtain ⟨h1, h2, h3⟩ := h j hj
  rw [Addr.add_lit] at h1 h2 h3
  have e : nthA ((List.range n).map f) j = f j := by simp [nthA, List.getD, hj]
  rw [e]
  exact ⟨b, off, rfl, World.block_lt_of_cell? _ _ h1, h1, by rw [Nat.add_assoc]; exact h2, by rw [Nat.add_assoc]; exact h3⟩

set_option maxHeartbeats 1000000 in
theorem open_args {H : Type} {enc : TypeId × Value → H} {w : World} {base fuel : Nat} {held : Bool} {a : Option Addr} {len cap : Nat} {d : DataW H} {ps : List MemPlace}
    (hf : DataW.trod enc Tryz.prog w base (fun _ => true) held fuel 39 [.slice a len cap] = some (d, ps)) (hs : ∀ n ∈ d.weights Tryz.prog 39, n ≤ reachBytes) :
    ∃ l : List ArgT, l.length = len ∧ ArgsV w a l ∧ ArgsOk l ∧ 24 * len ≤ 140737488351232 ∧ len ≤ cap := by
  rcases Go.Deep.open_slice Tryz.underlying39 hf with ⟨hcs, _⟩ | ⟨x, l, c, mm, nn, D, Pl, hcs, _, hl, hm, hmm, hx, hall⟩
  · simp at hcs
    obtain ⟨rfl, rfl, rfl⟩ := hcs
    exact ⟨[], rfl, argsV_nil, argsOk_nil, by omega, by omega⟩
  · simp at hcs
    obtain ⟨rfl, rfl, rfl⟩ := hcs
    simp only [Prod.mk.injEq] at hx
    obtain ⟨rfl, rfl⟩ := hx
    simp only [if_true] at hmm
    subst hmm
    have hs0 := hs ((((List.range len).map D).length + ((List.range (mm - len)).map fun j => D (len + j)).length) * Tryz.prog.bytesOf 62) (by simp [DataW.weights, Tryz.underlying39])
    rw [ArgInsts.bytesA] at hs0
    simp only [List.length_map, List.length_range, reachBytes] at hs0
    have key : ∀ i, i < len → ∃ r : ArgT, w.cell? (x.add (i * 3)) = some (.int .u8 r.1) ∧ w.cell? (x.add (i * 3 + 1)) = some (.int .u32 r.2.1) ∧ w.cell? (x.add (i * 3 + 2)) = some (.string r.2.2) ∧ ArgOk r := by
      intro i hi
      obtain ⟨cs, hc, ht⟩ := hall i (by omega)
      rw [ArgInsts.cellsA] at hc
      obtain ⟨_, hlen, hcell⟩ := World.cells?_some hc
      obtain ⟨xs, k, _, hxy, _, hxl, hfl⟩ := DataW.trod_struct Tryz.underlying62 ht
      have g0 := hfl 0 _ rfl
      have g1 := hfl 1 _ rfl
      have g2 := hfl 2 _ rfl
      match xs, hxl, cs, hlen with
      | [y0, y1, y2], _, [v0, v1, v2], _ =>
        have e0 := hcell 0 (by omega)
        have e1 := hcell 1 (by omega)
        have e2 := hcell 2 (by omega)
        rw [Go.Deep.add_add] at e0 e1 e2
        simp [ArgInsts.cells8, ArgInsts.cells32, ArgInsts.cellsS] at g0 g1 g2 e0 e1 e2
        obtain ⟨n0, q0, _, w0⟩ := DataW.trod_int Tryz.underlying5 g0
        obtain ⟨n1, q1, _, w1⟩ := DataW.trod_int Tryz.underlying22 g1
        obtain ⟨s2, q2, q3⟩ := DataW.trod_string Tryz.underlying9 g2
        simp at q0 q1 q2
        subst q0; subst q1; subst q2
        have b0 := bounds_u8 w0
        have b1 := bounds_u32 w1
        refine ⟨(n0, n1, s2), by simpa using e0, e1, e2, ?_⟩
        have hs2 := hs s2.size (by
          have hmem : D i ∈ (List.range len).map D := List.mem_map.2 ⟨i, List.mem_range.2 hi, rfl⟩
          simp only [DataW.weights, Tryz.underlying39, List.mem_cons, List.mem_append]
          refine Or.inr (Or.inl (weightsIn hmem _ ?_))
          simp only [Prod.mk.injEq] at hxy
          rw [hxy.1]
          simp only [DataW.weights, Tryz.underlying62]
          refine DataW.weights_mem_each (j := 2) rfl rfl _ ?_
          simp_all [DataW.weights])
        simp only [reachBytes] at hs2
        exact ⟨by simp; omega, by simp; omega, by simp; omega, by simp; omega, hs2⟩
    let f : Nat → ArgT := fun i => if h : i < len then Classical.choose (key i h) else noArg
    have hf' : ∀ i (h : i < len), f i = Classical.choose (key i h) := fun i h => dif_pos h
    refine ⟨(List.range len).map f, by simp, argsV_mk (fun i hi => ?_), fun j hj => ?_, by omega, hl⟩
    · rw [hf' i hi]
      obtain ⟨h1, h2, h3, _⟩ := Classical.choose_spec (key i hi)
      exact ⟨h1, h2, h3⟩
    · rw [List.length_map, List.length_range] at hj
      have e : nthA ((List.range len).map f) j = f j := by simp [nthA, List.getD, hj]
      rw [e, hf' j hj]
      exact (Classical.choose_spec (key j hj)).2.2.2

theorem instsV_mk {w : World} {x : Addr} {n : Nat} {f : Nat → InstT} (h : ∀ i, i < n → w.cell? (x.add (i * 4)) = some (.int .u16 (f i).1) ∧ w.cell? (x.add (i * 4 + 1)) = some (.int .u32 (f i).2.1) ∧ w.cell? (x.add (i * 4 + 2)) = some (.int .u32 (f i).2.2.1) ∧
    ∃ aj cj, w.cell? (x.add (i * 4 + 3)) = some (.slice aj (f i).2.2.2.length cj) ∧ ArgsV w aj (f i).2.2.2 ∧ (f i).2.2.2.length ≤ cj) : InstsV w (some x) ((List.range n).map f) := by
  intro j hj
  rw [List.length_map, List.length_range] at hj
  have h0 := (h 0 (by omega)).1
  obtain ⟨b, off, spot⟩ := x
  have hs : spot = none := by simpa [Addr.add] using World.cell?_spot h0
  subst hs
  obtain ⟨h1, h2, h3, aj, cj, h4, h5, h6⟩ := h j hj
  rw [Addr.add_lit] at h1 h2 h3 h4
  have e : nthI ((List.range n).map f) j = f j := by simp [nthI, List.getD, hj]
  rw [e]
  exact ⟨b, off, aj, cj, _, rfl, World.block_lt_of_cell? _ _ h1, h1, by rw [Nat.add_assoc]; exact h2, by rw [Nat.add_assoc]; exact h3, by rw [Nat.add_assoc]; exact h4, rfl, h5, h6⟩

set_option maxHeartbeats 1000000 in
theorem open_insts {H : Type} {enc : TypeId × Value → H} {w : World} {base fuel : Nat} {held : Bool} {a : Option Addr} {len cap : Nat} {d : DataW H} {ps : List MemPlace}
    (hf : DataW.trod enc Tryz.prog w base (fun _ => true) held fuel 23 [.slice a len cap] = some (d, ps)) (hs : ∀ n ∈ d.weights Tryz.prog 23, n ≤ reachBytes) :
    ∃ l : List InstT, l.length = len ∧ InstsV w a l ∧ InstsOk l ∧ 40 * len ≤ 140737488351232 ∧ len ≤ cap := by
  rcases Go.Deep.open_slice Tryz.underlying23 hf with ⟨hcs, _⟩ | ⟨x, l, c, mm, nn, D, Pl, hcs, _, hl, hm, hmm, hx, hall⟩
  · simp at hcs
    obtain ⟨rfl, rfl, rfl⟩ := hcs
    exact ⟨[], rfl, instsV_nil, instsOk_nil, by omega, by omega⟩
  · simp at hcs
    obtain ⟨rfl, rfl, rfl⟩ := hcs
    simp only [Prod.mk.injEq] at hx
    obtain ⟨rfl, rfl⟩ := hx
    simp only [if_true] at hmm
    subst hmm
    have hs0 := hs ((((List.range len).map D).length + ((List.range (mm - len)).map fun j => D (len + j)).length) * Tryz.prog.bytesOf 41) (by simp [DataW.weights, Tryz.underlying23])
    rw [ArgInsts.bytesI] at hs0
    simp only [List.length_map, List.length_range, reachBytes] at hs0
    have key : ∀ i, i < len → ∃ r : InstT, w.cell? (x.add (i * 4)) = some (.int .u16 r.1) ∧ w.cell? (x.add (i * 4 + 1)) = some (.int .u32 r.2.1) ∧ w.cell? (x.add (i * 4 + 2)) = some (.int .u32 r.2.2.1) ∧
        (∃ aj cj, w.cell? (x.add (i * 4 + 3)) = some (.slice aj r.2.2.2.length cj) ∧ ArgsV w aj r.2.2.2 ∧ r.2.2.2.length ≤ cj) ∧ InstOk r := by
      intro i hi
      obtain ⟨cs, hc, ht⟩ := hall i (by omega)
      rw [ArgInsts.cellsI] at hc
      obtain ⟨_, hlen, hcell⟩ := World.cells?_some hc
      obtain ⟨xs, k, _, hxy, _, hxl, hfl⟩ := DataW.trod_struct Tryz.underlying41 ht
      have g0 := hfl 0 _ rfl
      have g1 := hfl 1 _ rfl
      have g2 := hfl 2 _ rfl
      have g3 := hfl 3 _ rfl
      match xs, hxl, cs, hlen with
      | [y0, y1, y2, y3], _, [v0, v1, v2, v3], _ =>
        have e0 := hcell 0 (by omega)
        have e1 := hcell 1 (by omega)
        have e2 := hcell 2 (by omega)
        have e3 := hcell 3 (by omega)
        rw [Go.Deep.add_add] at e0 e1 e2 e3
        simp [ArgInsts.cells16, ArgInsts.cells32, ArgInsts.cellsL] at g0 g1 g2 g3 e0 e1 e2 e3
        obtain ⟨n0, q0, _, w0⟩ := DataW.trod_int Tryz.underlying38 g0
        obtain ⟨n1, q1, _, w1⟩ := DataW.trod_int Tryz.underlying22 g1
        obtain ⟨n2, q2, _, w2⟩ := DataW.trod_int Tryz.underlying22 g2
        simp at q0 q1 q2
        subst q0; subst q1; subst q2
        have b0 := bounds_u16 w0
        have b1 := bounds_u32 w1
        have b2 := bounds_u32 w2
        obtain ⟨a, n, c, rfl⟩ : ∃ a n c, v3 = .slice a n c := by
          rcases Go.Deep.open_slice Tryz.underlying39 g3 with ⟨hcs, _⟩ | ⟨x, l, c, mm, nn, D, Pl, hcs, _⟩
          · simp at hcs; exact ⟨_, _, _, hcs⟩
          · simp at hcs; exact ⟨_, _, _, hcs⟩
        obtain ⟨l, hl, hv3, hok, hr, hc⟩ := open_args g3 (fun k hk => hs k (by
          have hmem : D i ∈ (List.range len).map D := List.mem_map.2 ⟨i, List.mem_range.2 hi, rfl⟩
          simp only [DataW.weights, Tryz.underlying23, List.mem_cons, List.mem_append]
          refine Or.inr (Or.inl (weightsIn hmem _ ?_))
          simp only [Prod.mk.injEq] at hxy
          rw [hxy.1]
          simp only [DataW.weights, Tryz.underlying41]
          exact DataW.weights_mem_each (j := 3) rfl rfl _ hk))
        subst hl
        exact ⟨(n0, n1, n2, l), by simpa using e0, e1, e2, ⟨a, c, e3, hv3, hc⟩, by simp; omega, by simp; omega, by simp; omega, by simp; omega, by simp; omega, by simp; omega, hok, hr⟩
    let f : Nat → InstT := fun i => if h : i < len then Classical.choose (key i h) else noInst
    have hf' : ∀ i (h : i < len), f i = Classical.choose (key i h) := fun i h => dif_pos h
    refine ⟨(List.range len).map f, by simp, instsV_mk (fun i hi => ?_), fun j hj => ?_, by omega, hl⟩
    · rw [hf' i hi]
      obtain ⟨h1, h2, h3, h4, _⟩ := Classical.choose_spec (key i hi)
      exact ⟨h1, h2, h3, h4⟩
    · rw [List.length_map, List.length_range] at hj
      have e : nthI ((List.range len).map f) j = f j := by simp [nthI, List.getD, hj]
      rw [e, hf' j hj]
      exact (Classical.choose_spec (key j hj)).2.2.2.2

theorem open_module {H : Type} {enc : TypeId × Value → H} {w : World} {b0 base : Nat} {held : Bool} {v : Value} {d : DataW H} {ps : List MemPlace}
    (hv : Value.okWide Tryz.prog w .any b0 25 v) (h : DataW.Trod enc Tryz.prog w base (fun _ => true) held 25 v d ps) (hs : ∀ n ∈ d.weights Tryz.prog 25, n ≤ reachBytes) :
    ∃ (gen bound : Int) (a : Option Addr) (n c : Nat) (l : List InstT), v = .agg #[.int .u32 gen, .int .u32 bound, .slice a n c] ∧ 0 ≤ gen ∧ gen < 4294967296 ∧ 0 ≤ bound ∧ bound < 4294967296 ∧ l.length = n ∧ InstsV w a l ∧ InstsOk l ∧ 40 * n ≤ 140737488351232 ∧ n ≤ c := by
  obtain ⟨v0, v1, v3, y0, y1, y3, m, rfl, rfl, _, t0, t1, t3⟩ := Go.Joins.open_agg3 Tryz.underlying25 (by kernel_rfl) (by kernel_rfl) hv h
  obtain ⟨n0, e0, _, w0⟩ := DataW.trod_int Tryz.underlying22 t0
  obtain ⟨n1, e1, _, w1⟩ := DataW.trod_int Tryz.underlying22 t1
  simp at e0 e1
  subst e0; subst e1
  have b0 := bounds_u32 w0
  have b1 := bounds_u32 w1
  obtain ⟨a, n, c, rfl⟩ : ∃ a n c, v3 = .slice a n c := by
    rcases Go.Deep.open_slice Tryz.underlying23 t3 with ⟨hcs, _⟩ | ⟨x, l, c, mm, nn, D, Pl, hcs, _⟩
    · simp at hcs; exact ⟨_, _, _, hcs⟩
    · simp at hcs; exact ⟨_, _, _, hcs⟩
  obtain ⟨l, hl, hv3, hok, hr, hc⟩ := open_insts t3 (fun k hk => hs k (by
    simp only [DataW.weights, Tryz.underlying25]
    exact DataW.weights_mem_each (j := 2) rfl rfl _ hk))
  exact ⟨n0, n1, a, n, c, l, rfl, by omega, by omega, by omega, by omega, hl, hv3, hok, hr, hc⟩

end Go.Proofs.YtddackdadebjjaaGreat
