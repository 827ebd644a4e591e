/-
  Texts laid together in one: PrintTokensff, PrintTokens, LexKinds, LexNumber, LexWords.
-/
import Derived.WalkSpells
import Derived.WalkMore
import Derived.BigRegion
import Derived.BigQuiet
import Derived.Deep.RegionHeld2
import Derived.Test.YtonhnflilfjkbaaGreatDoorProg
import Derived.Test.YtonhnflilfjkbaaGreatDoorB11
import Derived.Test.YtonhnflilfjkbaaGreatDoorB04
import Derived.Test.YtonhnflilfjkbaaGreatDoorB01
import Derived.Test.YtonhnflilfjkbaaGreatDoorB02
import Derived.Test.YtonhnflilfjkbaaGreatDoorB03
import Derived.Test.YtonhnflilfjkbaaGreatDoorB12
import Derived.Test.YtonhnflilfjkbaaGreatDoorB10
/-
  instTokens of the package print: an instruction's tokens. Here: the form has a result: false, a type: false.
-/
namespace Go.Proofs.YtonhnflilfjkbaaGreatDoor
open Go.RowKit
set_option linter.unusedSimpArgs false
set_option maxRecDepth 10000
set_option linter.unusedVariables false

set_option maxHeartbeats 8000000 in
theorem printTokens_ff (x : InstT) (ax : Option Addr) (n cx : Nat) (w : World) (hv : ArgsV w ax x.2.2.2) (hl : x.2.2.2.length = n) (hn : n ≤ 1000000000) (hx : InstOk x) (hk : (lookF refT x.1).2 = true) (ht : Pow10 w) (hrs : (lookF refT x.1).1.2.2.1 = false) (hty : (lookF refT x.1).1.2.1 = false) :
    Calls Tryz.prog 29 #[.agg #[.int .u16 x.1, .int .u32 x.2.1, .int .u32 x.2.2.1, .slice ax n cx]] w fun e w' => ∃ a m c, e = .returned (.slice a m c) ∧ ToksV w' a (tksI x) ∧ (tksI x).length = m ∧ Below w.heap.size w w' := by
  have hOf := fun wx => of_any x.1 wx
  unfold ofV formV at hOf
  rw [hk, if_pos rfl] at hOf
  have HOf := hide hOf
  have HX := hide hx
  have HV := hide hv
  have HT := hide ht
  have HL := hide hl
  have HTK : Hid (tksI x = preTk (lookF refT x.1).1 x ++ argTks (lookF refT x.1).1 x.2.2.2) := rfl
  generalize tksI x = RES at *
  clear hOf hx hv ht hk hl
  generalize hfe : (lookF refT x.1).1 = f at *
  obtain ⟨nm, ty, rs, fx, rp, mo, pa⟩ := f
  simp only at hrs hty HOf
  subst hrs hty
  obtain ⟨xo, xt, xr, l⟩ := x
  simp only at HOf HX HV HL HTK hfe ⊢
  have HFE := hide hfe
  clear hfe
  have hba : Below w.heap.size w (w.alloc (.cells #[.int .u16 xo, .int .u32 xt, .int .u32 xr, .slice ax n cx] 38)) := (Below.refl _ w).alloc (Nat.le_refl _) _
  have HM0 := hide (heap_alloc_new w (.cells #[.int .u16 xo, .int .u32 xt, .int .u32 xr, .slice ax n cx] 38))
  have HB0 := hide hba
  have hof := HOf.out (w.alloc (.cells #[.int .u16 xo, .int .u32 xt, .int .u32 xr, .slice ax n cx] 38))
  clear hba HOf
  go_enter Tryz.func29, Tryz.ntmps29
  go_wp2_with fail
  generalize w.alloc (.cells #[.int .u16 xo, .int .u32 xt, .int .u32 xr, .slice ax n cx] 38) = W0 at *
  refine hof.mono ?_
  rintro e w1 ⟨rfl, hb1⟩
  have hba1 : Below w1.heap.size w1 ((w1.alloc (.cells #[.int .u16 xo, .string nm, .bool false, .bool false, .string fx, .string rp, .int .i64 mo, .int .u8 pa] 66)).alloc (.cells #[.slice none 0 0] 58)) := ((Below.refl _ w1).alloc (Nat.le_refl _) _).alloc (by simp) _
  have hb01 := hb1.trans (hba1.mono hb1.size)
  have hlt0 : w.heap.size < w1.heap.size := by have := (Array.getElem?_eq_some_iff.1 HM0.out).1; have := hb1.size; omega
  have HIT : Hid (ItB w ((w1.alloc (.cells #[.int .u16 xo, .string nm, .bool false, .bool false, .string fx, .string rp, .int .i64 mo, .int .u8 pa] 66)).alloc (.cells #[.slice none 0 0] 58)) xo xt xr ax n cx w1.heap.size (nm, false, false, fx, rp, mo, pa) (w1.heap.size + 1) (w1.heap.size + 2) (.slice none 0 0) []) := by
    refine ⟨(hb01.block _ (Array.getElem?_eq_some_iff.1 HM0.out).1).trans HM0.out, ?_, ⟨?_, by omega, by simp, ⟨rfl, .inl ⟨rfl, rfl⟩⟩⟩, HB0.out.trans (hb01.mono HB0.out.size), by omega, by omega⟩
    · rw [Below.heap_alloc _ _ _ (by simp)]; exact heap_alloc_new _ _
    · have := heap_alloc_new (w1.alloc (.cells #[.int .u16 xo, .string nm, .bool false, .bool false, .string fx, .string rp, .int .i64 mo, .int .u8 pa] 66)) (.cells #[.slice none 0 0] 58); simpa using this
  clear hof hb1 hba1 hb01 HM0 HB0
  have i1 := (one_block HIT.out.ibox).1 1
  have i2 := (one_block HIT.out.ibox).1 2
  have i3 := (one_block HIT.out.ibox).1 3
  have i0 := (one_block HIT.out.ibox).1 0
  go_wp2_with fail
  generalize (w1.alloc (.cells #[.int .u16 xo, .string nm, .bool false, .bool false, .string fx, .string rp, .int .i64 mo, .int .u8 pa] 66)).alloc (.cells #[.slice none 0 0] 58) = W1 at *
  clear i0 i1 i2 i3
  refine (printWord_any nm W1).mono ?_
  rintro e w2 ⟨rfl, hb⟩
  have HI2 := hide (HIT.out.below hb)
  clear hb HIT
  unfold tokV
  go_wp2_with fail
  have had := addTok_any (w1.heap.size + 1) (w1.heap.size + 2) _ _ [(1, nm, 0)] ⟨w2.heap.size, 0, none⟩ 1 1 (w2.alloc (.cells ([(1, nm, 0)].flatMap tokC).toArray 81)) (HI2.out.below ((Below.refl _ w2).alloc (Nat.le_refl _) _)).lis rfl (by decide) (newToks_cells w2 [(1, nm, 0)] _) (by simp)
  have HA := hide (HI2.out.below ((Below.refl _ w2).alloc (Nat.le_refl _) (.cells ([(1, nm, 0)].flatMap tokC).toArray 81)))
  refine had.mono ?_
  rintro e w3 ⟨rfl, ⟨v3, hl3⟩, hk3, _⟩
  have HI3 := hide (HA.out.keep hk3 hl3)
  clear had HA hl3 hk3 HI2
  have i1 := (one_block HI3.out.ibox).1 1
  have i2 := (one_block HI3.out.ibox).1 2
  have i3 := (one_block HI3.out.ibox).1 3
  have i0 := (one_block HI3.out.ibox).1 0
  obtain ⟨q0, f1, f2, f3, q4, q5, q6, q7⟩ := frm_cells HI3.out.fbox
  clear q0 q4 q5 q6 q7
  go_wp2_with fail
  clear i0 i1 i2 i3 f1 f2 f3
  go_loopw [42] (fun i wr => ∃ (k : Nat) (v : Value), k ≤ n ∧ i = .int .i64 k ∧ ItB w wr xo xt xr ax n cx w1.heap.size (nm, false, false, fx, rp, mo, pa) (w1.heap.size + 1) (w1.heap.size + 2) v (preTk (nm, false, false, fx, rp, mo, pa) (xo, xt, xr, l) ++ (argTks (nm, false, false, fx, rp, mo, pa) l).take k)) (fun i _ => n - (intOf i).toNat)
  case atStart => exact ⟨0, _, Nat.zero_le _, rfl, by have := HI3.out; simpa [preTk] using this⟩
  case round =>
    obtain ⟨k, v, hk, rfl, hR⟩ := hrel
    clear HI3
    have HR := hide hR
    have i0 := (one_block hR.ibox).1 0
    by_cases hlt : k < n
    · have HLT := hide hlt
      have hki : (k : Int) < (n : Int) := by omega
      have hk0 : (0 : Int) ≤ (k : Int) := by omega
      obtain ⟨b, o, rfl, hbs, a0, a1, a2⟩ := (HV.out.below hR.bel) k (by rw [HL.out]; exact hlt)
      have HFEW : Hid ((preTk (nm, false, false, fx, rp, mo, pa) (xo, xt, xr, l) ++ (argTks (nm, false, false, fx, rp, mo, pa) l).take k).length + 1 ≤ 1099511627776) := by
        show _ ≤ _
        rw [List.length_append, List.length_take, argTks_len]
        have : (preTk (nm, false, false, fx, rp, mo, pa) (xo, xt, xr, l)).length ≤ 4 := by simp [preTk]
        have := HL.out
        omega
      have hle := hide fun wx => grammarLetter_any xo ((k : Nat) : Int) wx (by omega)
      rw [HFE.out] at hle
      have hyo : ArgOk (nthA l k) := HX.out.2.2.2.2.2.2.1 k (by have := HL.out; simp only; omega)
      have har := hide fun c wx (hp : Pow10 wx) => printArgument_any c (nthA l k) wx hyo hp
      unfold argV at har
      have HTN := hide (argTks_snoc (nm, false, false, fx, rp, mo, pa) l k (by rw [HL.out]; exact hlt))
      generalize letterI (nm, false, false, fx, rp, mo, pa) (k : Int) = cc at *
      have hba : Below wr.heap.size wr (wr.alloc (.cells #[.int .u8 (nthA l k).1, .int .u32 (nthA l k).2.1, .string (nthA l k).2.2] 61)) := (Below.refl _ wr).alloc (Nat.le_refl _) _
      have HRA := hide (hR.below hba)
      have HAB := hide (heap_alloc_new wr (.cells #[.int .u8 (nthA l k).1, .int .u32 (nthA l k).2.1, .string (nthA l k).2.2] 61))
      generalize nthA l k = y at *
      obtain ⟨y0, y1, y2⟩ := y
      simp only at a0 a1 a2 har HRA HAB
      obtain ⟨t, hte⟩ : ∃ t, t = argTk cc (y0, y1, y2) := ⟨_, rfl⟩
      rw [← hte] at HTN
      have har2 := hide (har.out cc)
      rw [← hte] at har2
      obtain ⟨t0, t1, t2⟩ := t
      unfold tokV at har2
      simp only at har2
      clear hR hbs hba hyo har hte
      go_wp2_with fail
      generalize wr.alloc (.cells #[.int .u8 y0, .int .u32 y1, .string y2] 61) = WA at *
      generalize hAA : wr.heap.size = AA at *
      clear i0 a0 a1 a2
      have LC : Hid (∀ w', Below WA.heap.size WA w' → w'.cell? ⟨w.heap.size, 0, none⟩ = some (.int .u16 xo) ∧ w'.cell? ⟨AA, 0, none⟩ = some (.int .u8 y0) ∧ w'.cell? ⟨AA, 1, none⟩ = some (.int .u32 y1) ∧ w'.cell? ⟨AA, 2, none⟩ = some (.string y2)) := fun w' hC => by
        have q := (hC.block _ (Array.getElem?_eq_some_iff.1 HAB.out).1).trans HAB.out
        exact ⟨(one_block (HRA.out.below hC).ibox).1 0, (one_block q).1 0, (one_block q).1 1, (one_block q).1 2⟩
      have hC0 : Below WA.heap.size WA WA.drew := below_drew WA
      have hmix : Tryz.prog.follows .mixedOrders = true := by kernel_rfl
      refine (wpIn_wide (n := 0)).1 ?_
      refine wpIn_normal (wpIn_region_any hmix (wpAnyE_sound (C := fun w' => w'.cell? ⟨w.heap.size, 0, none⟩ = some (.int .u16 xo) ∧ w'.cell? ⟨AA, 0, none⟩ = some (.int .u8 y0) ∧ w'.cell? ⟨AA, 1, none⟩ = some (.int .u32 y1) ∧ w'.cell? ⟨AA, 2, none⟩ = some (.string y2)) (E := fun i => false) _ _ _ _ ?_))
      change wpAnyE _ _ _ _ _ _ _ _ _ _ _ (World.drew _)
      refine wpAnyE_takeD (i := 0) (some 47) (v := .func (.func 53) #[] #[.pointer (some ⟨w1.heap.size + 1, 0, none⟩)]) (fun _ => trivial) (by kernel_rfl) rfl rfl (by kernel_rfl) (by kernel_rfl) (by kernel_rfl) (by kernel_rfl) (fun _ _ _ h => by cases h.1) (LC.out _ hC0) (Or.inl ⟨by rfl, fun w' hC => by obtain ⟨e0, e1, e2, e3⟩ := hC; go_simp⟩) ?_
      simp only [Act.put, List.setIfInBounds_toArray, List.set_cons_succ, List.set_cons_zero]
      refine wpAnyE_takeD (i := 1) (some 48) (v := .pointer (some ⟨w.heap.size, 0, none⟩)) (fun _ => trivial) (by kernel_rfl) rfl rfl (by kernel_rfl) (by kernel_rfl) (by kernel_rfl) (by kernel_rfl) (fun _ _ _ h => by cases h.1) (LC.out _ hC0) (Or.inl ⟨by rfl, fun w' hC => by obtain ⟨e0, e1, e2, e3⟩ := hC; go_simp⟩) ?_
      simp only [Act.put, List.setIfInBounds_toArray, List.set_cons_succ, List.set_cons_zero]
      refine wpAnyE_takeD (i := 2) (some 49) (v := .int .u16 xo) (fun _ => trivial) (by kernel_rfl) rfl rfl (by kernel_rfl) (by kernel_rfl) (by kernel_rfl) (by kernel_rfl) (fun _ _ _ h => by cases h.1) (LC.out _ hC0) (Or.inl ⟨by rfl, fun w' hC => by obtain ⟨e0, e1, e2, e3⟩ := hC; go_simp⟩) ?_
      simp only [Act.put, List.setIfInBounds_toArray, List.set_cons_succ, List.set_cons_zero]
      refine wpAnyE_takeD (i := 3) (some 50) (v := .int .i64 (k : Int)) (fun _ => trivial) (by kernel_rfl) rfl rfl (by kernel_rfl) (by kernel_rfl) (by kernel_rfl) (by kernel_rfl) (fun _ _ _ h => by cases h.1) (LC.out _ hC0) (Or.inl ⟨by rfl, fun w' hC => by obtain ⟨e0, e1, e2, e3⟩ := hC; go_simp⟩) ?_
      simp only [Act.put, List.setIfInBounds_toArray, List.set_cons_succ, List.set_cons_zero]
      refine wpAnyE_takeD (i := 5) (some 52) (v := .agg #[.int .u8 y0, .int .u32 y1, .string y2]) (fun _ => trivial) (by kernel_rfl) rfl rfl (by kernel_rfl) (by kernel_rfl) (by kernel_rfl) (by kernel_rfl) (fun _ _ _ h => by cases h.1) (LC.out _ hC0) (Or.inl ⟨by rfl, fun w' hC => by obtain ⟨e0, e1, e2, e3⟩ := hC; go_simp⟩) ?_
      simp only [Act.put, List.setIfInBounds_toArray, List.set_cons_succ, List.set_cons_zero]
      refine wpAnyE_ready (rs := [4]) (by kernel_rfl) (by simp) ?_
      refine AllE.cons rfl (fun K hK => ?_) AllE.nil
      go_simp
      refine ⟨trivial, rfl, (callsIn_wide.2 (hle.out WA.drew)).mono ?_⟩
      rintro e w5 ⟨rfl, hb5⟩
      dsimp only
      have hC5 : Below WA.heap.size WA w5 := hC0.trans (show Below WA.heap.size WA.drew w5 from hb5)
      refine hK _ _ (.inr (LC.out _ hC5)) ?_
      clear hK K hb5
      refine wpAnyE_ready (rs := [6]) (by kernel_rfl) (by simp) ?_
      refine AllE.cons rfl (fun K hK => ?_) AllE.nil
      go_simp
      refine ⟨trivial, rfl, (callsIn_wide.2 (har2.out w5 (HT.out.below (HRA.out.below hC5).bel))).mono ?_⟩
      rintro e w6 ⟨rfl, hb6⟩
      dsimp only
      have hC6 : Below WA.heap.size WA w6 := hC5.trans (hb6.mono hC5.size)
      refine hK _ _ (.inr (LC.out _ hC6)) ?_
      clear hK K hb6 hC5
      refine wpAnyE_ready (rs := [7]) (by kernel_rfl) (by simp) ?_
      refine AllE.cons rfl (fun K hK => ?_) AllE.nil
      go_simp
      have hC7 : Below WA.heap.size WA (w6.alloc (.cells #[.int .u8 t0, .string t1, .int .i64 t2] 81)) := hC6.alloc hC6.size _
      refine hK _ _ (.inr (LC.out _ hC7)) ?_
      clear hK K
      have had := addTok_any (w1.heap.size + 1) (w1.heap.size + 2) _ _ [(t0, t1, t2)] ⟨w6.heap.size, 0, none⟩ 1 1 (w6.alloc (.cells ([(t0, t1, t2)].flatMap tokC).toArray 81)) (HRA.out.below hC7).lis rfl (by decide) (newToks_cells w6 [(t0, t1, t2)] _) HFEW.out
      have HA := hide (HRA.out.below hC7)
      refine wpAnyE_ready (rs := [8]) (by kernel_rfl) (by simp) ?_
      refine AllE.cons rfl (fun K hK => ?_) AllE.nil
      go_simp
      refine ⟨trivial, rfl, (callsIn_wide.2 had).mono ?_⟩
      rintro e w8 ⟨rfl, ⟨v8, hl8⟩, hk8, hf8⟩
      dsimp only
      have HI8 := hide (HA.out.keep hk8 hl8)
      have hz := HAB.out
      have hAw : AA < WA.heap.size := (Array.getElem?_eq_some_iff.1 HAB.out).1
      have q8 : w8.heap[AA]? = some (.cells #[.int .u8 y0, .int .u32 y1, .string y2] 61 (0, 0)) := (hf8 AA (by have := HR.out.lis.low; have := HR.out.lis.top; omega) (Nat.lt_of_lt_of_le hAw hC7.size) (fun e => by have := (HR.out.lis.own.lt AA e).2; omega)).trans ((hC7.block AA hAw).trans HAB.out)
      refine hK _ _ (.inr ⟨(one_block HI8.out.ibox).1 0, (one_block q8).1 0, (one_block q8).1 1, (one_block q8).1 2⟩) ?_
      clear hK K had HA hl8 hk8 hf8 hz q8 hC7 hC6 hC0 HRA
      refine wpAnyE_done (by kernel_rfl) ⟨rfl, ?_⟩ _
      rw [inBlock_thenP]
      have HE8 : Hid (ItB w w8 xo xt xr (some ⟨b, o, none⟩) n cx w1.heap.size (nm, false, false, fx, rp, mo, pa) (w1.heap.size + 1) (w1.heap.size + 2) v8 (preTk (nm, false, false, fx, rp, mo, pa) (xo, xt, xr, l) ++ (argTks (nm, false, false, fx, rp, mo, pa) l).take (k + 1))) := by
        show ItB _ _ _ _ _ _ _ _ _ _ _ _ _ _
        rw [HTN.out, ← List.append_assoc]; exact HI8.out
      clear HI8
      go_wp2_with fail
      go_roundw
      case rel => exact ⟨k + 1, v8, by have := HLT.out; omega, by go_num, HE8.out⟩
      case measure => have := HLT.out; simp [intOf]; omega
    · obtain rfl : k = n := by omega
      have l0 := (one_block hR.lis.box).1 0
      obtain ⟨aa, mm, cc, hvv, hTV, hlen⟩ := toksV_own hR.lis.own
      subst hvv
      have HB := hide hR.bel
      have HTV := hide hTV
      have HLE := hide hlen
      clear hR i0 HR
      go_wp2_with fail
      go_ret
      refine ⟨aa, mm, cc, rfl, ?_, ?_, HB.out⟩
      · have h1 := HTV.out
        rw [List.take_of_length_le (by rw [argTks_len, HL.out]; omega), ← HTK.out] at h1
        exact h1
      · have h1 := HLE.out
        rw [List.take_of_length_le (by rw [argTks_len, HL.out]; omega), ← HTK.out] at h1
        exact h1

end Go.Proofs.YtonhnflilfjkbaaGreatDoor

/-
  instTokens of the package print, for every form.
-/
namespace Go.Proofs.YtonhnflilfjkbaaGreatDoor
open Go.RowKit
set_option linter.unusedVariables false

theorem printTokens_any (x : InstT) (ax : Option Addr) (n cx : Nat) (w : World) (hv : ArgsV w ax x.2.2.2) (hl : x.2.2.2.length = n) (hn : n ≤ 1000000000) (hx : InstOk x) (hk : (lookF refT x.1).2 = true) (ht : Pow10 w) :
    Calls Tryz.prog 29 #[.agg #[.int .u16 x.1, .int .u32 x.2.1, .int .u32 x.2.2.1, .slice ax n cx]] w fun e w' => ∃ a m c, e = .returned (.slice a m c) ∧ ToksV w' a (tksI x) ∧ (tksI x).length = m ∧ Below w.heap.size w w' := by
  cases hrs : (lookF refT x.1).1.2.2.1 <;> cases hty : (lookF refT x.1).1.2.1
  · exact printTokens_ff x ax n cx w hv hl hn hx hk ht hrs hty
  · exact printTokens_ft x ax n cx w hv hl hn hx hk ht hrs hty
  · exact printTokens_tf x ax n cx w hv hl hn hx hk ht hrs hty
  · exact printTokens_tt x ax n cx w hv hl hn hx hk ht hrs hty

end Go.Proofs.YtonhnflilfjkbaaGreatDoor

/-
  What kindOf, inRun, printable, digitValue and hexDigit of the layer lex return, for every byte; nothing turns.
-/
namespace Go.Proofs.YtonhnflilfjkbaaGreatDoor
open Go.RowKit
set_option maxRecDepth 10000
set_option linter.unusedVariables false
set_option linter.unusedSimpArgs false

theorem printable_any (c : Int) (w : World) (h0 : 0 ≤ c) (h1 : c < 256) :
    Calls Tryz.prog 134 #[.int .u8 c] w fun e w' => e = .returned (.bool (printB c)) ∧ w = w' := by
  by_cases a : 32 ≤ c
  · by_cases b : c ≤ 126
    · have H : Hid (printB c = true) := by show _ = _; simp [printB]; omega
      go_enter Tryz.func134, Tryz.ntmps134
      go_wp2
      go_ret
      exact ⟨by rw [H.out]; first | rfl | (simp; done) | (simp; omega), rfl⟩
    · have H : Hid (printB c = false) := by show _ = _; simp [printB]; omega
      go_enter Tryz.func134, Tryz.ntmps134
      go_wp2
      go_ret
      exact ⟨by rw [H.out]; first | rfl | (simp; done) | (simp; omega), rfl⟩
  · have H : Hid (printB c = false) := by show _ = _; simp [printB]; omega
    go_enter Tryz.func134, Tryz.ntmps134
    go_wp2
    go_ret
    exact ⟨by rw [H.out]; first | rfl | (simp; done) | (simp; omega), rfl⟩

theorem hexDigit_any (c : Int) (w : World) (h0 : 0 ≤ c) (h1 : c < 16) :
    Calls Tryz.prog 135 #[.int .u8 c] w fun e w' => e = .returned (.int .u8 (if c < 10 then 48 + c else 87 + c)) ∧ w = w' := by
  by_cases a : c < 10
  · rw [if_pos a]
    go_enter Tryz.func135, Tryz.ntmps135
    go_wp2
    go_ret
    exact ⟨ret_int (by omega), rfl⟩
  · rw [if_neg a]
    go_enter Tryz.func135, Tryz.ntmps135
    go_wp2
    go_ret
    exact ⟨ret_int (by omega), rfl⟩

theorem inRun_any (k : Int) (w : World) (h0 : 0 ≤ k) (h1 : k < 256) :
    Calls Tryz.prog 129 #[.int .u8 k] w fun e w' => e = .returned (.bool (k == 3 || k == 4)) ∧ w = w' := by
  by_cases a : k = 3
  · subst a
    go_enter Tryz.func129, Tryz.ntmps129
    go_wp2
    go_ret
    exact ⟨rfl, rfl⟩
  · have a' : (k == 3) = false := by simpa using a
    go_enter Tryz.func129, Tryz.ntmps129
    go_wp2
    go_ret
    exact ⟨by rw [a']; rfl, rfl⟩

theorem kindL_letter {c : Int} (h : letterB c = true) : kindL c = 3 := by simp [kindL, h]
theorem kindL_digit {c : Int} (h : digitB c = true) : kindL c = 4 := by
  have : letterB c = false := by
    simp only [digitB, decide_eq_true_eq] at h
    simp [letterB]; omega
  simp [kindL, h, this]

set_option maxHeartbeats 1000000 in
theorem lexKindOf_any (c : Int) (w : World) (h0 : 0 ≤ c) (h1 : c < 256) :
    Calls Tryz.prog 130 #[.int .u8 c] w fun e w' => e = .returned (.int .u8 (kindL c)) ∧ w = w' := by
  by_cases a0 : c = 95
  · subst a0
    go_enter Tryz.func130, Tryz.ntmps130
    go_wp2
    go_ret
    exact ⟨rfl, rfl⟩
  by_cases a1 : 65 ≤ c ∧ c ≤ 90
  · have H : Hid (kindL c = 3) := kindL_letter (by simp [letterB]; omega)
    have b0 : (c == 95) = false := by simpa using a0
    obtain ⟨a2, a3⟩ := a1
    clear a0
    go_enter Tryz.func130, Tryz.ntmps130
    go_wp2
    go_ret
    exact ⟨by rw [H.out]; rfl, rfl⟩
  by_cases a2 : 97 ≤ c ∧ c ≤ 122
  · have H : Hid (kindL c = 3) := kindL_letter (by simp [letterB]; omega)
    have b0 : (c == 95) = false := by simpa using a0
    have b1 : 65 ≤ c := by omega
    have b2 : ¬ c ≤ 90 := by omega
    obtain ⟨a4, a3⟩ := a2
    clear a0 a1
    go_enter Tryz.func130, Tryz.ntmps130
    go_wp2
    go_ret
    exact ⟨by rw [H.out]; rfl, rfl⟩
  have d1 : (decide (65 ≤ c) && decide (c ≤ 90)) = false := by simpa using a1
  have d2 : (decide (97 ≤ c) && decide (c ≤ 122)) = false := by simpa using a2
  have hL : letterB c = false := by simp [letterB, a0]; omega
  have b0 : (c == 95) = false := by simpa using a0
  by_cases a3 : 48 ≤ c ∧ c ≤ 57
  · have H : Hid (kindL c = 4) := kindL_digit (by simp [digitB]; omega)
    obtain ⟨a4, a5⟩ := a3
    have b1 : ¬ 65 ≤ c := by omega
    have b2 : ¬ 97 ≤ c := by omega
    clear a0 a1 a2 d1 d2 hL
    go_enter Tryz.func130, Tryz.ntmps130
    go_wp2
    go_ret
    exact ⟨by rw [H.out]; rfl, rfl⟩
  have hD : digitB c = false := by simp [digitB]; omega
  have HK : Hid (kindL c = if blankB c then 2 else if c = 37 then 5 else if c = 45 then 6 else if c = 34 then 7 else if c = 92 then 8 else if c = 61 then 9 else if c = 59 then 10 else 1) := by
    show _ = _
    simp only [kindL, hL, hD]; rfl
  by_cases e0 : c = 9 ∨ c = 13 ∨ c = 32 ∨ c = 37 ∨ c = 45 ∨ c = 34 ∨ c = 61 ∨ c = 59
  · rcases e0 with rfl | rfl | rfl | rfl | rfl | rfl | rfl | rfl <;>
    · go_enter Tryz.func130, Tryz.ntmps130
      go_wp2
      go_ret
      exact ⟨rfl, rfl⟩
  by_cases e1 : c = 92
  · subst e1
    go_enter Tryz.func130, Tryz.ntmps130
    go_wp2
    go_ret
    exact ⟨rfl, rfl⟩
  simp only [not_or] at e0
  obtain ⟨f0, f1, f2, f3, f4, f5, f6, f7⟩ := e0
  have H : Hid (kindL c = 1) := by
    show _ = _
    rw [HK.out, if_neg (by simp [blankB]; omega), if_neg f3, if_neg f4, if_neg f5, if_neg e1, if_neg f6, if_neg f7]
  have g0 : (c == 9) = false := by simpa using f0
  have g1 : (c == 13) = false := by simpa using f1
  have g2 : (c == 32) = false := by simpa using f2
  have g3 : (c == 37) = false := by simpa using f3
  have g4 : (c == 45) = false := by simpa using f4
  have g5 : (c == 34) = false := by simpa using f5
  have g6 : (c == 61) = false := by simpa using f6
  have g7 : (c == 59) = false := by simpa using f7
  have g8 : (c == 92) = false := by simpa using e1
  clear f0 f1 f2 f3 f4 f5 f6 f7 e1 HK hD hL a0
  by_cases m0 : 65 ≤ c
  · have m1 : ¬ c ≤ 90 := by omega
    by_cases m2 : 97 ≤ c
    · have m3 : ¬ c ≤ 122 := by omega
      have m4 : 48 ≤ c := by omega
      have m5 : ¬ c ≤ 57 := by omega
      clear a1 a2 a3 d1 d2
      go_enter Tryz.func130, Tryz.ntmps130
      go_wp2
      go_ret
      exact ⟨by rw [H.out]; rfl, rfl⟩
    · have m4 : 48 ≤ c := by omega
      have m5 : ¬ c ≤ 57 := by omega
      clear a1 a2 a3 d1 d2
      go_enter Tryz.func130, Tryz.ntmps130
      go_wp2
      go_ret
      exact ⟨by rw [H.out]; rfl, rfl⟩
  · have m2 : ¬ 97 ≤ c := by omega
    by_cases m4 : 48 ≤ c
    · have m5 : ¬ c ≤ 57 := by omega
      clear a1 a2 a3 d1 d2
      go_enter Tryz.func130, Tryz.ntmps130
      go_wp2
      go_ret
      exact ⟨by rw [H.out]; rfl, rfl⟩
    · clear a1 a2 a3 d1 d2
      go_enter Tryz.func130, Tryz.ntmps130
      go_wp2
      go_ret
      exact ⟨by rw [H.out]; rfl, rfl⟩

theorem digitValue_any (c : Int) (w : World) (h0 : 0 ≤ c) (h1 : c < 256) :
    Calls Tryz.prog 155 #[.int .u8 c] w fun e w' => e = .returned (.int .u64 (dvI c)) ∧ w = w' := by
  have hE : ∀ c, 48 ≤ c → c ≤ 57 → dvI c = c - 48 := fun c a b => by
    unfold dvI worthI; rw [if_pos (by simp [hexB, digitB]; omega), if_pos b]
  have hF : ∀ c, 97 ≤ c → c ≤ 102 → dvI c = c - 87 := fun c a b => by
    unfold dvI worthI; rw [if_pos (by simp [hexB, digitB]; omega), if_neg (by omega), if_pos a]
  have hG : ∀ c, 65 ≤ c → c ≤ 70 → dvI c = c - 55 := fun c a b => by
    unfold dvI worthI; rw [if_pos (by simp [hexB, digitB]; omega), if_neg (by omega), if_neg (by omega)]
  by_cases a0 : 48 ≤ c
  · by_cases a1 : c ≤ 57
    · have H : Hid (dvI c = c - 48) := hE c a0 a1
      clear hE hF hG
      go_enter Tryz.func155, Tryz.ntmps155
      go_wp2
      go_ret
      exact ⟨by rw [H.out]; rfl, rfl⟩
    · by_cases a2 : 97 ≤ c
      · by_cases a3 : c ≤ 102
        · have H : Hid (dvI c = c - 87) := hF c a2 a3
          clear hE hF hG
          go_enter Tryz.func155, Tryz.ntmps155
          go_wp2
          go_ret
          exact ⟨by rw [H.out]; exact ret_int (by omega), rfl⟩
        · have H : Hid (dvI c = 18446744073709551615) := by show _ = _; unfold dvI; rw [if_neg (by simp [hexB, digitB]; omega)]
          have a4 : 65 ≤ c := by omega
          have a5 : ¬ c ≤ 70 := by omega
          clear hE hF hG
          go_enter Tryz.func155, Tryz.ntmps155
          go_wp2
          go_ret
          exact ⟨by rw [H.out]; rfl, rfl⟩
      · by_cases a3 : 65 ≤ c
        · by_cases a5 : c ≤ 70
          · have H : Hid (dvI c = c - 55) := hG c a3 a5
            clear hE hF hG
            go_enter Tryz.func155, Tryz.ntmps155
            go_wp2
            go_ret
            exact ⟨by rw [H.out]; exact ret_int (by omega), rfl⟩
          · have H : Hid (dvI c = 18446744073709551615) := by show _ = _; unfold dvI; rw [if_neg (by simp [hexB, digitB]; omega)]
            clear hE hF hG
            go_enter Tryz.func155, Tryz.ntmps155
            go_wp2
            go_ret
            exact ⟨by rw [H.out]; rfl, rfl⟩
        · have H : Hid (dvI c = 18446744073709551615) := by show _ = _; unfold dvI; rw [if_neg (by simp [hexB, digitB]; omega)]
          clear hE hF hG
          go_enter Tryz.func155, Tryz.ntmps155
          go_wp2
          go_ret
          exact ⟨by rw [H.out]; rfl, rfl⟩
  · have H : Hid (dvI c = 18446744073709551615) := by show _ = _; unfold dvI; rw [if_neg (by simp [hexB, digitB]; omega)]
    have a2 : ¬ 97 ≤ c := by omega
    have a3 : ¬ 65 ≤ c := by omega
    clear hE hF hG
    go_enter Tryz.func155, Tryz.ntmps155
    go_wp2
    go_ret
    exact ⟨by rw [H.out]; rfl, rfl⟩

end Go.Proofs.YtonhnflilfjkbaaGreatDoor

/-
  What digitsOf, plainNumber, number and Number of the layer lex return, for every text; nothing turns.
-/
namespace Go.Proofs.YtonhnflilfjkbaaGreatDoor
open Go.RowKit
set_option maxRecDepth 10000
set_option linter.unusedVariables false
set_option linter.unusedSimpArgs false

theorem str_empty_strI {s : ByteArray} : (strI s).isEmpty = s.toList.isEmpty := by
  rw [ByteArray.toList_eq, strI, List.isEmpty_map]

set_option maxHeartbeats 1000000 in
theorem digitsOf_any (s : ByteArray) (b : Int) (w : World) (hs : s.size ≤ 140737488351232) (hb : b = 10 ∨ b = 16) :
    Calls Tryz.prog 131 #[.string s, .int .u64 b] w fun e w' => (∃ x : Int, e = .returned (.tuple #[.int .u32 x, .bool (digsB b (strI s))]) ∧ 0 ≤ x ∧ x < 4294967296 ∧ (digsB b (strI s) = true → x = valF b 0 (strI s))) ∧ w = w' := by
  have HLen := strI_len s
  have HF : Hid (∀ k, k < s.size → b ≤ dvI (nth (strI s) k) → digsB b (strI s) = false) := fun k hk h => digs_not (by omega) h
  have HG : Hid (∀ k, 4294967296 ≤ valF b 0 ((strI s).take k) → digsB b (strI s) = false) := fun k h => digs_large (by omega) h
  have HA : Hid (∀ k, k < s.size → allD b ((strI s).take k) = true → dvI (nth (strI s) k) < b → allD b ((strI s).take (k + 1)) = true) := fun k hk h h1 => allD_snoc (by omega) h h1
  have HV : Hid (∀ k, k < s.size → valF b 0 ((strI s).take (k + 1)) = valF b 0 ((strI s).take k) * b + dvI (nth (strI s) k)) := fun k hk => valF_take b _ k (by omega)
  have HW : Hid (∀ k, 0 ≤ valF b 0 ((strI s).take k)) := fun k => valF_lo b _ (by omega)
  have HE : Hid (allD b ((strI s).take s.size) = true → valF b 0 ((strI s).take s.size) < 4294967296 → digsB b (strI s) = !s.toList.isEmpty ∧ valF b 0 ((strI s).take s.size) = valF b 0 (strI s)) := fun h1 h2 => by
    rw [List.take_of_length_le (by omega)] at h1 h2 ⊢
    refine ⟨?_, rfl⟩
    rw [digs_all h1 h2, str_empty_strI]
  clear HLen
  go_enter Tryz.func131, Tryz.ntmps131
  go_wp2
  go_loop [6, 11] (fun n i => ∃ k : Nat, k ≤ s.size ∧ i = .int .i64 k ∧ n = .int .u64 (valF b 0 ((strI s).take k)) ∧ allD b ((strI s).take k) = true ∧ valF b 0 ((strI s).take k) < 4294967296) (fun _ i => s.size - (intOf i).toNat)
  case atStart => exact ⟨0, Nat.zero_le _, rfl, rfl, rfl, by simp [valF]⟩
  case round =>
    obtain ⟨k, hk, rfl, rfl, hall, hlt32⟩ := hrel
    have hn0 := HW.out k
    by_cases hlt : k < s.size
    · have hc0 : (0 : Int) ≤ (s[k].toNat : Int) := by omega
      have hc1 : (s[k].toNat : Int) < 256 := by have := s[k].toNat_lt; omega
      have hD := fun wx => digitValue_any (s[k].toNat : Int) wx hc0 hc1
      have d0 := dv_lo (s[k].toNat : Int)
      have d1 := dv_hi (s[k].toNat : Int)
      have eF := HF.out k hlt
      have eG := HG.out (k + 1)
      have eA := HA.out k hlt hall
      have eV := HV.out k hlt
      rw [nth_strI s k hlt] at eF eA eV
      rw [eV] at eG
      have EF : Hid (b ≤ dvI (s[k].toNat : Int) → digsB b (strI s) = false) := eF
      have EG : Hid (4294967296 ≤ valF b 0 ((strI s).take k) * b + dvI (s[k].toNat : Int) → digsB b (strI s) = false) := eG
      have EA : Hid (dvI (s[k].toNat : Int) < b → allD b ((strI s).take (k + 1)) = true) := eA
      have EV : Hid (valF b 0 ((strI s).take (k + 1)) = valF b 0 ((strI s).take k) * b + dvI (s[k].toNat : Int)) := eV
      clear eF eG eA eV hall
      generalize dvI (s[k].toNat : Int) = d at *
      generalize valF b 0 ((strI s).take k) = n at *
      by_cases hge : b ≤ d
      · have HB : Hid (digsB b (strI s) = false) := EF.out hge
        have hdec : decide (b ≤ d) = true := decide_eq_true hge
        go_wp2_with (go_at_call 155; refine (hD _).mono ?_; rintro e w' ⟨rfl, rfl⟩)
        go_ret2
        exact ⟨⟨0, by rw [HB.out]; rfl, by omega, by omega, fun h => by rw [HB.out] at h; cases h⟩, rfl⟩
      · have hdec : decide (b ≤ d) = false := decide_eq_false hge
        by_cases hbig : 4294967296 ≤ n * b + d
        · have HB : Hid (digsB b (strI s) = false) := EG.out hbig
          have hdec2 : decide ((4294967295 : Int) < n * b + d) = true := decide_eq_true (by omega)
          have hw1 : 0 ≤ n * b ∧ n * b < 18446744073709551616 := by rcases hb with rfl | rfl <;> omega
          have hw2 : 0 ≤ n * b + d ∧ n * b + d < 18446744073709551616 := by rcases hb with rfl | rfl <;> omega
          clear hbig
          rcases hb with rfl | rfl <;>
          · go_wp2_with (go_at_call 155; refine (hD _).mono ?_; rintro e w' ⟨rfl, rfl⟩)
            go_ret2
            exact ⟨⟨0, by rw [HB.out]; rfl, by omega, by omega, fun h => by rw [HB.out] at h; cases h⟩, rfl⟩
        · have hdec2 : decide ((4294967295 : Int) < n * b + d) = false := decide_eq_false (by omega)
          have hsm : n * b + d < 4294967296 := by omega
          clear hbig
          rcases hb with rfl | rfl <;>
          · go_wp2_with (go_at_call 155; refine (hD _).mono ?_; rintro e w' ⟨rfl, rfl⟩)
            go_round
            case rel => exact ⟨k + 1, by omega, by go_num, by rw [EV.out], EA.out (by omega), by rw [EV.out]; exact hsm⟩
            case measure => simp [intOf]; omega
    · obtain rfl : k = s.size := by omega
      obtain ⟨e1, e2⟩ := HE.out hall hlt32
      have E2 : Hid (valF b 0 ((strI s).take s.size) = valF b 0 (strI s)) := e2
      clear e2 hall
      generalize valF b 0 ((strI s).take s.size) = n at *
      have E1 : Hid (digsB b (strI s) = !s.toList.isEmpty) := e1
      clear e1
      go_wp2
      go_ret2
      refine ⟨⟨n, ?_, hn0, hlt32, fun _ => E2.out⟩, rfl⟩
      rw [E1.out]; rfl

theorem plainNumber_any (s : ByteArray) (w : World) (hs : s.size ≤ 140737488351232) :
    Calls Tryz.prog 87 #[.string s] w fun e w' => (∃ x : Int, e = .returned (.tuple #[.int .u32 x, .bool (plainB (strI s))]) ∧ 0 ≤ x ∧ x < 4294967296 ∧ (plainB (strI s) = true → x = valF 10 0 (strI s))) ∧ w = w' := by
  have hD := fun wx => digitsOf_any s 10 wx hs (.inl rfl)
  by_cases h1 : 1 < s.size
  · have h0 := nth_strI s 0 (by omega)
    by_cases hz : (s[0].toNat : Int) = 48
    · have HB : Hid (plainB (strI s) = false) := plain_zero (by rw [strI_len]; exact h1) (by rw [h0]; exact hz)
      have hz' : ((s[0].toNat : Int) == 48) = true := by simpa using hz
      clear h0 hz
      go_enter Tryz.func87, Tryz.ntmps87
      go_wp2_with fail
      go_ret2
      exact ⟨⟨0, by rw [HB.out]; rfl, by omega, by omega, fun h => by rw [HB.out] at h; cases h⟩, rfl⟩
    · have HB : Hid (plainB (strI s) = digsB 10 (strI s)) := plain_digs (by rw [h0]; intro h; exact hz h.2)
      have hz' : ((s[0].toNat : Int) == 48) = false := by simpa using hz
      clear h0 hz
      go_enter Tryz.func87, Tryz.ntmps87
      go_wp2_with fail
      refine (hD _).mono ?_
      rintro e w' ⟨⟨x, rfl, hx0, hx1, hx⟩, rfl⟩
      go_wp2_with fail
      go_ret2
      exact ⟨⟨x, by rw [HB.out]; rfl, hx0, hx1, fun h => hx (by rw [HB.out] at h; exact h)⟩, rfl⟩
  · have HB : Hid (plainB (strI s) = digsB 10 (strI s)) := plain_digs (by rw [strI_len]; intro h; exact h1 h.1)
    go_enter Tryz.func87, Tryz.ntmps87
    go_wp2_with fail
    refine (hD _).mono ?_
    rintro e w' ⟨⟨x, rfl, hx0, hx1, hx⟩, rfl⟩
    go_wp2_with fail
    go_ret2
    exact ⟨⟨x, by rw [HB.out]; rfl, hx0, hx1, fun h => hx (by rw [HB.out] at h; exact h)⟩, rfl⟩

/-- A text begins with another. -/
def pfxB (t s : ByteArray) : Bool := decide (s.size ≤ t.size) && ((t.extract 0 s.size).toList == s.toList)
/-- What is left behind it. -/
def pfxS (t s : ByteArray) : ByteArray := if pfxB t s then t.extract s.size t.size else t

theorem litePfx_any (t s : ByteArray) (w : World) (ht : t.size ≤ 140737488351232) (hs : s.size ≤ 140737488351232) :
    Calls Tryz.prog 174 #[.string t, .string s] w fun e w' => e = .returned (.bool (pfxB t s)) ∧ w = w' := by
  by_cases h : s.size ≤ t.size
  · have HE : Hid (pfxB t s = ((t.extract 0 s.size).toList == s.toList)) := by show _ = _; unfold pfxB; rw [decide_eq_true h]; rfl
    have h' : decide ((t.size : Int) ≥ (s.size : Int)) = true := decide_eq_true (by omega)
    have hi : (s.size : Int) ≤ (t.size : Int) := by omega
    go_enter Tryz.func174, Tryz.ntmps174
    go_wp2
    go_ret
    exact ⟨by rw [HE.out]; rfl, rfl⟩
  · have HE : Hid (pfxB t s = false) := by show _ = _; unfold pfxB; rw [decide_eq_false h]; rfl
    go_enter Tryz.func174, Tryz.ntmps174
    go_wp2
    go_ret
    exact ⟨by rw [HE.out]; rfl, rfl⟩

theorem liteCutPrefix_any (t s : ByteArray) (w : World) (ht : t.size ≤ 140737488351232) (hs : s.size ≤ 140737488351232) :
    Calls Tryz.prog 156 #[.string t, .string s] w fun e w' => e = .returned (.tuple #[.string (pfxS t s), .bool (pfxB t s)]) ∧ w = w' := by
  have hP := fun wx => litePfx_any t s wx ht hs
  cases hb : pfxB t s
  · have HS : Hid (pfxS t s = t) := by show _ = _; simp [pfxS, hb]
    rw [hb] at hP
    clear hb
    go_enter Tryz.func156, Tryz.ntmps156
    go_wp2_with fail
    refine (hP _).mono ?_
    rintro e w' ⟨rfl, rfl⟩
    go_wp2_with fail
    go_ret2
    exact ⟨by rw [HS.out]; rfl, rfl⟩
  · have HS : Hid (pfxS t s = t.extract s.size t.size) := by show _ = _; simp [pfxS, hb]
    have hle : s.size ≤ t.size := by simp only [pfxB, Bool.and_eq_true, decide_eq_true_eq] at hb; exact hb.1
    have hi : (s.size : Int) ≤ (t.size : Int) := by omega
    rw [hb] at hP
    clear hb
    go_enter Tryz.func156, Tryz.ntmps156
    go_wp2_with fail
    refine (hP _).mono ?_
    rintro e w' ⟨rfl, rfl⟩
    go_wp2_with fail
    go_ret2
    exact ⟨by rw [HS.out]; rfl, rfl⟩

theorem cutPrefix_any (t s : ByteArray) (w : World) (ht : t.size ≤ 140737488351232) (hs : s.size ≤ 140737488351232) :
    Calls Tryz.prog 132 #[.string t, .string s] w fun e w' => e = .returned (.tuple #[.string (pfxS t s), .bool (pfxB t s)]) ∧ w = w' := by
  have hP := fun wx => liteCutPrefix_any t s wx ht hs
  generalize pfxB t s = b at *
  generalize pfxS t s = u at *
  go_enter Tryz.func132, Tryz.ntmps132
  go_wp2_with fail
  refine (hP _).mono ?_
  rintro e w' ⟨rfl, rfl⟩
  go_wp2_with fail
  go_ret2
  exact ⟨rfl, rfl⟩

theorem pfx_strI (t s : ByteArray) : pfxB t s = decide ((strI t).take s.size = strI s) := by
  have h1 := strI_len t
  have h2 := strI_len s
  have e : ((t.extract 0 s.size).toList == s.toList) = decide ((strI t).take s.size = strI s) := by
    rw [ByteArray.toList_eq, ByteArray.toList_eq]
    have e3 : strI (t.extract 0 s.size) = (strI t).take s.size := by rw [strI_extract]; rfl
    rw [← e3]
    by_cases h : (t.extract 0 s.size).data.toList = s.data.toList
    · have : strI (t.extract 0 s.size) = strI s := by unfold strI; rw [h]
      rw [h, decide_eq_true this]; simp
    · have : ¬ strI (t.extract 0 s.size) = strI s := fun h' => h (by rw [strI_inj h'])
      rw [decide_eq_false this]; simpa using h
  unfold pfxB; rw [e]
  by_cases hs : s.size ≤ t.size
  · simp [hs]
  · have : ¬ (strI t).take s.size = strI s := fun h => by
      have := congrArg List.length h
      rw [List.length_take] at this; omega
    rw [decide_eq_false this, Bool.and_false]
theorem pfxS_strI {t s : ByteArray} (h : pfxB t s = true) : strI (pfxS t s) = (strI t).drop s.size := by
  rw [pfxS, if_pos h, strI_extract, List.take_of_length_le (by rw [strI_len]; omega)]
theorem pfxS_size (t s : ByteArray) : (pfxS t s).size ≤ t.size := by
  unfold pfxS; split
  · rw [ByteArray.size_extract]; omega
  · omega

theorem num_neg {l : List Int} (h : l.take 1 = [45]) : numB l = (plainB (l.drop 1) && decide (1 ≤ valF 10 0 (l.drop 1) ∧ valF 10 0 (l.drop 1) ≤ 2147483648)) ∧ numV l = 4294967296 - valF 10 0 (l.drop 1) := by
  unfold numB numV; rw [if_pos h, if_pos h]; exact ⟨rfl, rfl⟩
theorem num_hex {l : List Int} (h0 : ¬ l.take 1 = [45]) (h : l.take 2 = [48, 120]) : numB l = (digsB 16 (l.drop 2) && decide (l.length ≤ 10)) ∧ numV l = valF 16 0 (l.drop 2) := by
  unfold numB numV; rw [if_neg h0, if_neg h0, if_pos h, if_pos h]; exact ⟨rfl, rfl⟩
theorem num_plain {l : List Int} (h0 : ¬ l.take 1 = [45]) (h : ¬ l.take 2 = [48, 120]) : numB l = plainB l ∧ numV l = valF 10 0 l := by
  unfold numB numV; rw [if_neg h0, if_neg h0, if_neg h, if_neg h]; exact ⟨rfl, rfl⟩

theorem number_any (s : ByteArray) (w : World) (hs : s.size ≤ 140737488351232) :
    Calls Tryz.prog 88 #[.string s] w fun e w' => (∃ x : Int, e = .returned (.tuple #[.int .u32 x, .bool (numB (strI s))]) ∧ 0 ≤ x ∧ x < 4294967296 ∧ (numB (strI s) = true → x = numV (strI s))) ∧ w = w' := by
  have hP : ∀ wx, _ := fun wx => cutPrefix_any s { data := #[45] } wx hs (by decide)
  have hQ : ∀ wx, _ := fun wx => cutPrefix_any s { data := #[48, 120] } wx hs (by decide)
  have e1 := pfx_strI s { data := #[45] }
  have e2 := pfx_strI s { data := #[48, 120] }
  rw [show strI { data := #[45] } = [45] from rfl, show ByteArray.size { data := #[45] } = 1 from rfl] at e1
  rw [show strI { data := #[48, 120] } = [48, 120] from rfl, show ByteArray.size { data := #[48, 120] } = 2 from rfl] at e2
  by_cases hm : (strI s).take 1 = [45]
  · rw [decide_eq_true hm] at e1
    have e3 := pfxS_strI e1
    rw [show ByteArray.size { data := #[45] } = 1 from rfl] at e3
    have hN := fun wx => plainNumber_any (pfxS s { data := #[45] }) wx (Nat.le_trans (pfxS_size _ _) hs)
    obtain ⟨n1, n2⟩ := num_neg hm
    rw [e3] at hN
    rw [e1] at hP
    have N1 : Hid (numB (strI s) = _) := n1
    have N2 : Hid (numV (strI s) = _) := n2
    generalize pfxS s { data := #[45] } = u at hP hN
    generalize (strI s).drop 1 = l at hN N1 N2
    generalize plainB l = B at hN N1
    generalize valF 10 0 l = v at hN N1 N2
    clear hQ e1 e2 e3 n1 n2 hm
    go_enter Tryz.func88, Tryz.ntmps88
    go_wp2_with fail
    refine (hP _).mono ?_
    rintro e w' ⟨rfl, rfl⟩
    go_wp2_with fail
    refine (hN _).mono ?_
    rintro e w' ⟨⟨x, rfl, hx0, hx1, hx⟩, rfl⟩
    cases B
    · have HB : Hid (numB (strI s) = false) := by show _ = _; rw [N1.out]; rfl
      clear N1 N2 hx hP hN
      go_wp2
      go_ret2
      exact ⟨⟨_, by rw [HB.out]; rfl, by omega, by omega, fun h => by rw [HB.out] at h; cases h⟩, rfl⟩
    · obtain rfl := hx rfl
      clear hx hP hN
      by_cases h1 : 1 ≤ x
      · have HB : Hid (numB (strI s) = decide (x ≤ 2147483648)) := by show _ = _; rw [N1.out]; simp [h1]
        go_wp2
        go_ret2
        exact ⟨⟨-x % 4294967296, by rw [HB.out]; rfl, by omega, by omega, fun h => by rw [HB.out] at h; have := of_decide_eq_true h; rw [N2.out]; omega⟩, rfl⟩
      · have HB : Hid (numB (strI s) = false) := by show _ = _; rw [N1.out]; simp [h1]
        go_wp2
        go_ret2
        exact ⟨⟨_, by rw [HB.out]; rfl, by omega, by omega, fun h => by rw [HB.out] at h; cases h⟩, rfl⟩
  · rw [decide_eq_false hm] at e1
    rw [e1] at hP
    by_cases hx : (strI s).take 2 = [48, 120]
    · rw [decide_eq_true hx] at e2
      have e3 := pfxS_strI e2
      rw [show ByteArray.size { data := #[48, 120] } = 2 from rfl] at e3
      have hN := fun wx => digitsOf_any (pfxS s { data := #[48, 120] }) 16 wx (Nat.le_trans (pfxS_size _ _) hs) (.inr rfl)
      obtain ⟨n1, n2⟩ := num_hex hm hx
      rw [e3] at hN
      rw [e2] at hQ
      have hlen : (pfxS s { data := #[48, 120] }).size = s.size - 2 := by
        rw [← strI_len, e3, List.length_drop, strI_len]
      have h2 : 2 ≤ s.size := by
        have := congrArg List.length hx
        rw [List.length_take, strI_len] at this
        simp at this; omega
      have N1 : Hid (numB (strI s) = _) := n1
      have N2 : Hid (numV (strI s) = _) := n2
      rw [strI_len] at N1
      generalize pfxS s { data := #[45] } = u' at hP
      generalize pfxS s { data := #[48, 120] } = u at hQ hN hlen
      generalize (strI s).drop 2 = l at hN N1 N2
      generalize digsB 16 l = B at hN N1
      generalize valF 16 0 l = v at hN N1 N2
      have hu : u.size ≤ 140737488351232 := by omega
      have HLEN : Hid (u.size = s.size - 2) := hlen
      clear e1 e2 e3 n1 n2 hm hx hlen
      go_enter Tryz.func88, Tryz.ntmps88
      go_wp2_with fail
      refine (hP _).mono ?_
      rintro e w' ⟨rfl, rfl⟩
      go_wp2_with fail
      refine (hQ _).mono ?_
      rintro e w' ⟨rfl, rfl⟩
      go_wp2_with fail
      refine (hN _).mono ?_
      rintro e w' ⟨⟨x, rfl, hx0, hx1, hx⟩, rfl⟩
      cases B
      · have HB : Hid (numB (strI s) = false) := by show _ = _; rw [N1.out]; rfl
        clear N1 N2 hx hP hN hQ
        go_wp2
        go_ret2
        exact ⟨⟨_, by rw [HB.out]; rfl, hx0, hx1, fun h => by rw [HB.out] at h; cases h⟩, rfl⟩
      · obtain rfl := hx rfl
        clear hx hP hN hQ
        have HB : Hid (numB (strI s) = decide ((u.size : Int) ≤ 8)) := by
          show _ = _
          have hlen := HLEN.out
          rw [N1.out]
          by_cases h : s.size ≤ 10
          · rw [decide_eq_true h, decide_eq_true (by omega)]; rfl
          · rw [decide_eq_false h, decide_eq_false (by omega)]; rfl
        go_wp2
        go_ret2
        exact ⟨⟨_, by rw [HB.out]; rfl, hx0, hx1, fun h => by rw [N2.out]⟩, rfl⟩
    · rw [decide_eq_false hx] at e2
      rw [e2] at hQ
      have hN := fun wx => plainNumber_any s wx hs
      obtain ⟨n1, n2⟩ := num_plain hm hx
      have N1 : Hid (numB (strI s) = _) := n1
      have N2 : Hid (numV (strI s) = _) := n2
      clear n1 n2 e1 e2 hm hx
      generalize pfxS s { data := #[45] } = u' at hP
      generalize pfxS s { data := #[48, 120] } = u at hQ
      generalize plainB (strI s) = B at hN N1
      generalize valF 10 0 (strI s) = v at hN N2
      go_enter Tryz.func88, Tryz.ntmps88
      go_wp2_with fail
      refine (hP _).mono ?_
      rintro e w' ⟨rfl, rfl⟩
      go_wp2_with fail
      refine (hQ _).mono ?_
      rintro e w' ⟨rfl, rfl⟩
      go_wp2_with fail
      refine (hN _).mono ?_
      rintro e w' ⟨⟨x, rfl, hx0, hx1, hx⟩, rfl⟩
      go_wp2_with fail
      go_ret2
      exact ⟨⟨_, by rw [N1.out]; rfl, hx0, hx1, fun h => by rw [N2.out]; exact hx (by rw [N1.out] at h; exact h)⟩, rfl⟩

end Go.Proofs.YtonhnflilfjkbaaGreatDoor

/-
  What isWord and mayBe of the layer lex return, for every text and token.
-/
namespace Go.Proofs.YtonhnflilfjkbaaGreatDoor
open Go.RowKit
set_option maxRecDepth 10000
set_option linter.unusedVariables false
set_option linter.unusedSimpArgs false

set_option maxHeartbeats 1000000 in
theorem isWord_any (s : ByteArray) (w : World) (hs : s.size ≤ 140737488351232) :
    Calls Tryz.prog 86 #[.string s] w fun e w' => e = .returned (.bool (wordB (strI s))) ∧ w = w' := by
  have HN : Hid (∀ k, k < s.size → runB (nth (strI s) k) = false → wordB (strI s) = false) := fun k hk h => word_not (by rw [strI_len]; exact hk) h
  have HA : Hid ((∀ k, k < s.size → runB (nth (strI s) k) = true) → wordB (strI s) = (!s.toList.isEmpty && letterB (nth (strI s) 0))) := fun h => by
    rw [← str_empty_strI]
    cases hl : strI s with
    | nil => rfl
    | cons c r =>
      rw [← hl, word_all (by rw [hl]; simp) (fun k hk => h k (by rw [← strI_len]; exact hk)), hl]; rfl
  have HZ : Hid (s.size = 0 → s.toList.isEmpty = true) := fun h => by rw [← str_empty_strI, List.isEmpty_iff, ← List.length_eq_zero_iff, strI_len]; exact h
  have HZ2 : Hid (0 < s.size → s.toList.isEmpty = false) := fun h => by
    rw [← str_empty_strI]
    have := strI_len s
    cases hl : strI s with
    | nil => rw [hl] at this; simp at this; omega
    | cons c r => rfl
  go_enter Tryz.func86, Tryz.ntmps86
  go_wp2
  go_loop [6] (fun i => ∃ k : Nat, k ≤ s.size ∧ i = .int .i64 k ∧ ∀ j, j < k → runB (nth (strI s) j) = true) (fun i => s.size - (intOf i).toNat)
  case atStart => exact ⟨0, Nat.zero_le _, rfl, fun j hj => by omega⟩
  case round =>
    obtain ⟨k, hk, rfl, hall⟩ := hrel
    by_cases hlt : k < s.size
    · have hc0 : (0 : Int) ≤ (s[k].toNat : Int) := by omega
      have hc1 : (s[k].toNat : Int) < 256 := by have := s[k].toNat_lt; omega
      have hK := fun wx => lexKindOf_any (s[k].toNat : Int) wx hc0 hc1
      have hR := fun wx => inRun_any (kindL (s[k].toNat : Int)) wx (by have := kind_lo (s[k].toNat : Int); omega) (by have := kind_hi (s[k].toNat : Int); omega)
      have EN := HN.out k hlt
      rw [nth_strI s k hlt] at EN
      have EA : Hid (runB (s[k].toNat : Int) = true → ∀ j, j < k + 1 → runB (nth (strI s) j) = true) := fun h j hj => by
        by_cases e : j = k
        · subst e; rw [nth_strI s j hlt]; exact h
        · exact hall j (by omega)
      have EN' : Hid (runB (s[k].toNat : Int) = false → wordB (strI s) = false) := EN
      clear EN hall
      rw [kind_run] at hR
      generalize kindL (s[k].toNat : Int) = kd at *
      generalize runB (s[k].toNat : Int) = rb at *
      cases rb
      · have HB : Hid (wordB (strI s) = false) := EN'.out rfl
        go_wp2_with (first | (go_at_call 130; refine (hK _).mono ?_; rintro e w' ⟨rfl, rfl⟩) | (go_at_call 129; refine (hR _).mono ?_; rintro e w' ⟨rfl, rfl⟩))
        go_ret
        exact ⟨by rw [HB.out]; rfl, rfl⟩
      · go_wp2_with (first | (go_at_call 130; refine (hK _).mono ?_; rintro e w' ⟨rfl, rfl⟩) | (go_at_call 129; refine (hR _).mono ?_; rintro e w' ⟨rfl, rfl⟩))
        go_round
        case rel => exact ⟨k + 1, by omega, by go_num, EA.out trivial⟩
        case measure => simp [intOf]; omega
    · obtain rfl : k = s.size := by omega
      have HB : Hid (wordB (strI s) = (!s.toList.isEmpty && letterB (nth (strI s) 0))) := HA.out hall
      clear hall
      by_cases hz : 0 < s.size
      · have he := HZ2.out hz
        have hc0 : (0 : Int) ≤ (s[0].toNat : Int) := by omega
        have hc1 : (s[0].toNat : Int) < 256 := by have := s[0].toNat_lt; omega
        have hK := fun wx => lexKindOf_any (s[0].toNat : Int) wx hc0 hc1
        rw [nth_strI s 0 hz] at HB
        have HK : Hid ((kindL (s[0].toNat : Int) == 3) = letterB (s[0].toNat : Int)) := kind_letter _
        have HB2 : Hid (wordB (strI s) = (kindL (s[0].toNat : Int) == 3)) := by show _ = _; rw [HB.out, he, HK.out]; rfl
        clear HB HK
        generalize kindL (s[0].toNat : Int) = kd at *
        go_wp2_with (go_at_call 130; refine (hK _).mono ?_; rintro e w' ⟨rfl, rfl⟩)
        go_ret
        exact ⟨by rw [HB2.out]; rfl, rfl⟩
      · have he := HZ.out (by omega)
        have HB2 : Hid (wordB (strI s) = false) := by show _ = _; rw [HB.out, he]; rfl
        clear HB
        go_wp2_with fail
        go_ret
        exact ⟨by rw [HB2.out]; rfl, rfl⟩

theorem eq_strI (s t : ByteArray) : (s.toList == t.toList) = decide (strI s = strI t) := by
  rw [ByteArray.toList_eq, ByteArray.toList_eq]
  by_cases h : s.data.toList = t.data.toList
  · have : strI s = strI t := by unfold strI; rw [h]
    rw [h, decide_eq_true this]; simp
  · have : ¬ strI s = strI t := fun h' => h (by rw [strI_inj h'])
    rw [decide_eq_false this]; simpa using h

theorem mayBe_any (k : Int) (s : ByteArray) (a : Int) (w : World) (hk0 : 0 ≤ k) (hk1 : k < 256) (hs : s.size ≤ 140737488351232) :
    Calls Tryz.prog 49 #[.agg #[.int .u8 k, .string s, .int .i64 a]] w fun e w' => e = .returned (.bool (tokOk k (strI s))) ∧ Below w.heap.size w w' := by
  have HB : Hid (Below w.heap.size w (w.alloc (.cells #[.int .u8 k, .string s, .int .i64 a] 81))) := (Below.refl _ w).alloc (Nat.le_refl _) _
  by_cases k1 : k = 1
  · subst k1
    have HT : Hid (tokOk 1 (strI s) = wordB (strI s)) := rfl
    have hW := fun wx => isWord_any s wx hs
    generalize wordB (strI s) = B at hW HT
    go_enter Tryz.func49, Tryz.ntmps49
    go_wp2_with fail
    refine (hW _).mono ?_
    rintro e w' ⟨rfl, rfl⟩
    go_wp2_with fail
    go_ret
    exact ⟨by rw [HT.out]; rfl, HB.out⟩
  by_cases k2 : k = 2
  · subst k2
    have HT : Hid (tokOk 2 (strI s) = plainB (strI s)) := rfl
    have hW := fun wx => plainNumber_any s wx hs
    generalize plainB (strI s) = B at hW HT
    go_enter Tryz.func49, Tryz.ntmps49
    go_wp2_with fail
    refine (hW _).mono ?_
    rintro e w' ⟨⟨x, rfl, _, _, _⟩, rfl⟩
    go_wp2_with fail
    go_ret
    exact ⟨by rw [HT.out]; rfl, HB.out⟩
  by_cases k3 : k = 3
  · subst k3
    have HT : Hid (tokOk 3 (strI s) = numB (strI s)) := rfl
    have hW := fun wx => number_any s wx hs
    generalize numB (strI s) = B at hW HT
    go_enter Tryz.func49, Tryz.ntmps49
    go_wp2_with fail
    refine (hW _).mono ?_
    rintro e w' ⟨⟨x, rfl, _, _, _⟩, rfl⟩
    go_wp2_with fail
    go_ret
    exact ⟨by rw [HT.out]; rfl, HB.out⟩
  by_cases k4 : k = 4
  · subst k4
    have HT : Hid (tokOk 4 (strI s) = true) := rfl
    go_enter Tryz.func49, Tryz.ntmps49
    go_wp2_with fail
    go_ret
    exact ⟨by rw [HT.out]; rfl, HB.out⟩
  by_cases k5 : k = 5
  · subst k5
    have HT : Hid (tokOk 5 (strI s) = (s.toList == [61])) := by
      have e := eq_strI s { data := #[61] }
      rw [show ByteArray.toList { data := #[61] } = [61] by rw [ByteArray.toList_eq]] at e
      show _ = _
      rw [e]; rfl
    go_enter Tryz.func49, Tryz.ntmps49
    go_wp2_with fail
    go_ret
    exact ⟨by rw [HT.out]; rfl, HB.out⟩
  have HT : Hid (tokOk k (strI s) = false) := by show _ = _; simp [tokOk, k1, k2, k3, k4, k5]
  have b1 : (k == 1) = false := by simpa using k1
  have b2 : (k == 2) = false := by simpa using k2
  have b3 : (k == 3) = false := by simpa using k3
  have b4 : (k == 4) = false := by simpa using k4
  have b5 : (k == 5) = false := by simpa using k5
  clear k1 k2 k3 k4 k5
  go_enter Tryz.func49, Tryz.ntmps49
  go_wp2_with fail
  go_ret
  exact ⟨by rw [HT.out]; rfl, HB.out⟩

end Go.Proofs.YtonhnflilfjkbaaGreatDoor
