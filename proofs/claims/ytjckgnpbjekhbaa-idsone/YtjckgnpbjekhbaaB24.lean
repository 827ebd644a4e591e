/-
  Texts laid together in one: IdsWithIdsN, IdsReorders, IdsRename, LayoutCheck.
-/
import Derived.WalkSpells
import Derived.WalkMore
import Derived.BigRegion
import Derived.Test.YtjckgnpbjekhbaaProg
import Derived.Test.YtjckgnpbjekhbaaB23
import Derived.Test.YtjckgnpbjekhbaaB01
import Derived.Test.YtjckgnpbjekhbaaB20
import Derived.Test.YtjckgnpbjekhbaaB10
import Derived.Deep.RegionWith
import Derived.Test.YtjckgnpbjekhbaaB09
import Derived.Test.YtjckgnpbjekhbaaB17
import Derived.Deep.MidRow
import Derived.Test.YtjckgnpbjekhbaaB15
/-
  withIds of the package ids, with the closure ids.Rename$1: a module with other ids, in new memory.
-/
namespace Go.Proofs.Ytjckgnpbjekhbaa
open Go.RowKit
set_option linter.unusedVariables false
set_option linter.unusedSimpArgs false
set_option maxRecDepth 10000

set_option maxHeartbeats 8000000 in
theorem withIdsN_any (f : Int → Int) (P : Int → Prop) (cb : Nat) (gen bnd nb : Int) (ax : Option Addr) (n cx : Nat) (l : List InstT) (w : World) (hx : InstsV w ax l) (hok : InstsOk l) (hl : l.length = n) (hn : 40 * n ≤ 140737488351232)
    (hC : ∀ wx id, Below w.heap.size w wx → P id → Calls Try.prog 25 #[.int .u32 id, .pointer (some ⟨cb, 0, none⟩)] wx fun e w' => e = .returned (.int .u32 (f id)) ∧ wx = w')
    (hP : ∀ k, k < n → ((nthI l k).2.1 ≠ 0 → P (nthI l k).2.1) ∧ ((nthI l k).2.2.1 ≠ 0 → P (nthI l k).2.2.1) ∧ ∀ j, j < (nthI l k).2.2.2.length → (nthA (nthI l k).2.2.2 j).1 = 1 → P (nthA (nthI l k).2.2.2 j).2.1) :
    Calls Try.prog 19 #[modV gen bnd ax n cx, .int .u32 nb, .func (.func 25) #[] #[.pointer (some ⟨cb, 0, none⟩)]] w fun e w' => ∃ g, e = .returned (modV gen nb (some ⟨g, 0, none⟩) n n) ∧ w.heap.size ≤ g ∧ RowT w' w.heap.size g n n (turnL f l) ∧ Below w.heap.size w w' := by
  obtain ⟨i0, hi, hz0, hz1, hz2⟩ := info_parts RowT.info
  unfold modV
  have HL : Hid (l.length = n) := hl
  have HN : Hid (40 * n ≤ 140737488351232) := hn
  have HC := hide hC
  have HPP := hide hP
  have HV := hide hx
  have HOK := hide hok
  clear hl hC hP hx hok
  go_enter Try.func19, Try.ntmps19
  go_wp2_with (at_make; refine wpList_make_full _ rfl _ _ 23 rfl (w.heap.size + 2) 38 i0 (.agg #[.int .u16 0, .int .u32 0, .int .u32 0, .slice none 0 0]) 4 Try.underlying23 hi hz0 hz1 _ _ _ _ n rfl rfl (by omega) (by omega) (by rw [hz2]; omega) (by unfold maxLen; omega) (by simp) ?_)
  intro w1 hown1 hgrow1
  have hb0 : Below w.heap.size w ((w.alloc (.cells #[.int .u32 gen, .int .u32 bnd, .slice ax n cx] 25)).alloc (.cells #[.int .u32 0, .int .u32 0, .slice none 0 0] 25)) := ((Below.refl _ w).alloc (Nat.le_refl _) _).alloc (by simp) _
  have hb1 : Below (w.heap.size + 2) ((w.alloc (.cells #[.int .u32 gen, .int .u32 bnd, .slice ax n cx] 25)).alloc (.cells #[.int .u32 0, .int .u32 0, .slice none 0 0] 25)) w1 := (Below.refl _ _).grown hgrow1 (by simp) (by simp)
  have hbox : w1.heap[w.heap.size]? = some (.cells #[.int .u32 gen, .int .u32 bnd, .slice ax n cx] 25 (0, 0)) := (hb1.block w.heap.size (by omega)).trans ((Below.heap_alloc _ _ _ (by simp)).trans (heap_alloc_new w _))
  have hres : w1.heap[w.heap.size + 1]? = some (.cells #[.int .u32 0, .int .u32 0, .slice none 0 0] 25 (0, 0)) := (hb1.block (w.heap.size + 1) (by omega)).trans (by simpa using heap_alloc_new (w.alloc (.cells #[.int .u32 gen, .int .u32 bnd, .slice ax n cx] 25)) (.cells #[.int .u32 0, .int .u32 0, .slice none 0 0] 25))
  have hP1 : RowT w1 w.heap.size (w.heap.size + 2) n 0 (turnL f l) := by
    refine ⟨?_, by omega, fun j hj => by omega⟩
    rcases hown1.2 with ⟨h, _⟩ | ⟨g, cap', cur, h1, h2, h3, h4, h5, h6, _⟩
    · simp at h
    · simp at h1; obtain ⟨rfl, rfl⟩ := h1; exact ⟨cur, h3, h6⟩
  have hbw1 : Below w.heap.size w w1 := hb0.trans (hb1.mono (by omega))
  have HI1 := hide (And.intro hP1 (And.intro hbox (And.intro hres hbw1)))
  have m2 := (one_block hbox).1 2
  clear hown1 hgrow1 hb0 hb1 hP1 hbox hres hbw1
  go_wp2_with fail
  clear m2
  go_loopw [17] (fun i wr => ∃ k : Nat, k ≤ n ∧ i = .int .i64 k ∧ RowT wr w.heap.size (w.heap.size + 2) n k (turnL f l) ∧ wr.heap[w.heap.size]? = some (.cells #[.int .u32 gen, .int .u32 bnd, .slice ax n cx] 25 (0, 0)) ∧ wr.heap[w.heap.size + 1]? = some (.cells #[.int .u32 0, .int .u32 0, .slice none 0 0] 25 (0, 0)) ∧ Below w.heap.size w wr) (fun i _ => n - (intOf i).toNat)
  case atStart => exact ⟨0, Nat.zero_le _, rfl, HI1.out⟩
  case round =>
    obtain ⟨k, hk, rfl, hR, hbx, hrs, hnx⟩ := hrel
    clear HI1
    have hkb : (k : Int) < 140737488351232 := by have := HN.out; omega
    by_cases hlt : k < n
    · have hkl : k < l.length := by rw [HL.out]; exact hlt
      obtain ⟨b, off, aj, cj, nj, rfl, hbs, p1, p2, p3, p4, p5, p6, _⟩ := HV.out.below hnx k hkl
      obtain ⟨cs, hr1, hr2⟩ := hR.row
      have hgl : w.heap.size + 1 + 1 < wr.heap.size := (Array.getElem?_eq_some_iff.1 hr1).1
      obtain ⟨⟨u0, d0⟩, f0⟩ := cells_canT hr1 (k * 4) (by omega)
      obtain ⟨⟨u1, d1⟩, f1⟩ := cells_canT hr1 (k * 4 + 1) (by omega)
      obtain ⟨⟨u2, d2⟩, f2⟩ := cells_canT hr1 (k * 4 + 2) (by omega)
      obtain ⟨⟨u3, d3⟩, f3⟩ := cells_canT hr1 (k * 4 + 3) (by omega)
      have hki : (k : Int) < (n : Int) := by omega
      have hk0 : (0 : Int) ≤ (k : Int) := by omega
      have s1 := (HOK.out k hkl).2.2.2.2.2.2.2
      rw [p5] at s1
      obtain ⟨P1, P2, P3⟩ := HPP.out k hlt
      have hba : Below wr.heap.size wr (wr.alloc (.cells #[.int .u16 (nthI l k).1, .int .u32 (nthI l k).2.1, .int .u32 (nthI l k).2.2.1, .slice aj nj cj] 38)) := (Below.refl _ wr).alloc (Nat.le_refl _) _
      have hbw := hnx.trans (hba.mono hnx.size)
      have hT := turnedN_any f P cb (nthI l k) aj nj cj _ (p6.below hba) p5 (by omega) (fun wx id hb hp => HC.out wx id (hbw.trans (hb.mono hbw.size)) hp) P1 P2 (fun j hj => P3 j (by rw [p5]; exact hj))
      have HTL : Hid (nthI (turnL f l) k = turnX f (nthI l k)) := turnL_at f l k hkl
      have HP5 : Hid ((turnX f (nthI l k)).2.2.2.length = nj) := by show _ = _; rw [← p5]; simp [turnX]
      have HBA := hide hba
      have HBW := hide hbw
      have HR := hide hR
      have HX := hide (And.intro hbx hrs)
      have HSA : Hid ((wr.alloc (.cells #[.int .u16 (nthI l k).1, .int .u32 (nthI l k).2.1, .int .u32 (nthI l k).2.2.1, .slice aj nj cj] 38)).heap.size = wr.heap.size + 1) := by show _ = _; simp
      have HD := hide (And.intro d0 (And.intro d1 (And.intro d2 (And.intro d3 (And.intro f0 (And.intro f1 (And.intro f2 f3)))))))
      generalize turnX f (nthI l k) = zz at *
      generalize nthI l k = z at *
      obtain ⟨zo, zt, zr, zl⟩ := z
      obtain ⟨yo, yt, yr, yl⟩ := zz
      unfold instV at hT
      simp only at *
      clear hR hbx hrs hba hbw P1 P2 P3 p5 p6 s1 hr1 hr2 d0 d1 d2 d3 f0 f1 f2 f3
      go_wp2_with fail
      generalize wr.alloc (.cells #[.int .u16 zo, .int .u32 zt, .int .u32 zr, .slice aj nj cj] 38) = Y at *
      refine hT.mono ?_
      rintro e w5 ⟨a5, c5, rfl, hown5, hb5⟩
      have hb5a := HBA.out.trans (hb5.mono HBA.out.size)
      obtain ⟨d0, d1, d2, d3, f0, f1, f2, f3⟩ := HD.out
      have e1 := (hb5a.cell (p := ⟨w.heap.size + 1 + 1, k * 4, none⟩) (by exact hgl)).trans d0
      have e2 := (hb5a.cell (p := ⟨w.heap.size + 1 + 1, k * 4 + 1, none⟩) (by exact hgl)).trans d1
      have e3 := (hb5a.cell (p := ⟨w.heap.size + 1 + 1, k * 4 + 2, none⟩) (by exact hgl)).trans d2
      have e4 := (hb5a.cell (p := ⟨w.heap.size + 1 + 1, k * 4 + 3, none⟩) (by exact hgl)).trans d3
      have e5 := (hb5a.frozen (p := ⟨w.heap.size + 1 + 1, k * 4, none⟩) (by exact hgl)).trans f0
      have e6 := (hb5a.frozen (p := ⟨w.heap.size + 1 + 1, k * 4 + 1, none⟩) (by exact hgl)).trans f1
      have e7 := (hb5a.frozen (p := ⟨w.heap.size + 1 + 1, k * 4 + 2, none⟩) (by exact hgl)).trans f2
      have e8 := (hb5a.frozen (p := ⟨w.heap.size + 1 + 1, k * 4 + 3, none⟩) (by exact hgl)).trans f3
      have HP2 := hide ((HR.out.below hb5a).store hlt (x := (yo, yt, yr, yl)) HTL.out HP5.out (lo := Y.heap.size + 2) (by have := HSA.out; omega) hown5)
      have HB2 := hide (HBW.out.trans (hb5.mono HBW.out.size))
      have HX2 := hide (And.intro ((hb5a.block w.heap.size (by omega)).trans HX.out.1) ((hb5a.block (w.heap.size + 1) (by omega)).trans HX.out.2))
      clear hT hown5 hb5 hb5a d0 d1 d2 d3 f0 f1 f2 f3 HD HR HX HBA HBW
      go_wp2_with fail
      go_roundw
      case rel => exact ⟨k + 1, by omega, by go_num, HP2.out, setFarT (setFarT (setFarT (setFarT HX2.out.1 (by omega) _ _) (by omega) _ _) (by omega) _ _) (by omega) _ _, setFarT (setFarT (setFarT (setFarT HX2.out.2 (by omega) _ _) (by omega) _ _) (by omega) _ _) (by omega) _ _, (((HB2.out.setCell (by show w.heap.size ≤ w.heap.size + 1 + 1; omega) _).setCell (by show w.heap.size ≤ w.heap.size + 1 + 1; omega) _).setCell (by show w.heap.size ≤ w.heap.size + 1 + 1; omega) _).setCell (by show w.heap.size ≤ w.heap.size + 1 + 1; omega) _⟩
      case measure => simp [intOf]; omega
    · obtain rfl : k = n := by omega
      obtain ⟨hc, hf⟩ := one_block hbx
      obtain ⟨hc', hf'⟩ := one_block hrs
      have c0 := hc 0
      have r0 := hc' 0
      have r1 := hc' 1
      have r2 := hc' 2
      have HRF := hide (((hR.far (b := w.heap.size + 1) (by omega) 0 (.int .u32 gen)).far (b := w.heap.size + 1) (by omega) 1 (.int .u32 nb)).far (b := w.heap.size + 1) (by omega) 2 (.slice (some ⟨w.heap.size + 1 + 1, 0, none⟩) k k))
      have HXF := hide (three_putT hrs (.int .u32 gen) (.int .u32 nb) (.slice (some ⟨w.heap.size + 1 + 1, 0, none⟩) k k))
      have HBF := hide (((hnx.setCell (p := ⟨w.heap.size + 1, 0, none⟩) (by simp) (.int .u32 gen)).setCell (p := ⟨w.heap.size + 1, 1, none⟩) (by simp) (.int .u32 nb)).setCell (p := ⟨w.heap.size + 1, 2, none⟩) (by simp) (.slice (some ⟨w.heap.size + 1 + 1, 0, none⟩) k k))
      clear hR hbx hrs hc hc' hnx
      go_wp2_with fail
      generalize ((wr.setCell ⟨w.heap.size + 1, 0, none⟩ (.int .u32 gen)).setCell ⟨w.heap.size + 1, 1, none⟩ (.int .u32 nb)).setCell ⟨w.heap.size + 1, 2, none⟩ (.slice (some ⟨w.heap.size + 1 + 1, 0, none⟩) k k) = Z at *
      obtain ⟨hd, _⟩ := one_block HXF.out
      have d0 := hd 0
      have d1 := hd 1
      have d2 := hd 2
      refine bodyPost_ret (v := .agg #[.int .u32 gen, .int .u32 nb, .slice (some ⟨w.heap.size + 1 + 1, 0, none⟩) k k]) (by simp [results, Try.results19, go_sem, d0, d1, d2]) rfl ⟨w.heap.size + 1 + 1, rfl, by omega, HRF.out, HBF.out⟩

end Go.Proofs.Ytjckgnpbjekhbaa

/-
  reorders of the package ids and the document's Way: may ids be renamed so?
-/
namespace Go.Proofs.Ytjckgnpbjekhbaa
open Go.RowKit
set_option linter.unusedVariables false
set_option linter.unusedSimpArgs false
set_option maxRecDepth 10000

theorem Bools.info : (Try.prog.info? 4).map (fun i => (i.zero, i.size, i.bytes)) = some (some (.bool false), 1, 1) := by kernel_rfl
/-- Which numbers were met among the first k. -/
def takL (zs : List Int) (k N : Nat) : List Value := (List.range N).map fun (i : Nat) => .bool (decide ((i : Int) ∈ zs.take k))
theorem takL_len (zs : List Int) (k N : Nat) : (takL zs k N).length = N := by simp [takL]
theorem takL_at (zs : List Int) (k N i : Nat) (h : i < N) : (takL zs k N)[i]? = some (.bool (decide ((i : Int) ∈ zs.take k))) := by simp [takL, h]
theorem takL_zero (zs : List Int) (N : Nat) : takL zs 0 N = List.replicate N (.bool false) := by
  apply List.ext_getElem?
  intro i
  by_cases h : i < N
  · rw [takL_at _ _ _ _ h, List.getElem?_replicate, if_pos h]; simp
  · rw [List.getElem?_eq_none (by rw [takL_len]; omega), List.getElem?_eq_none (by rw [List.length_replicate]; omega)]
theorem take_snocW (zs : List Int) (k : Nat) (hk : k < zs.length) : zs.take (k + 1) = zs.take k ++ [nth zs k] := by
  rw [List.take_add_one, List.getElem?_eq_getElem hk]
  simp [nth, List.getD, hk]
theorem takL_set (zs : List Int) (k N q : Nat) (hk : k < zs.length) (hq : nth zs k = (q : Int)) : (takL zs k N).set q (.bool true) = takL zs (k + 1) N := by
  apply List.ext_getElem?
  intro i
  by_cases h : i < N
  · rw [takL_at _ _ _ _ h, take_snocW zs k hk, hq, List.getElem?_set]
    by_cases e : q = i
    · subst e; rw [if_pos rfl, if_pos (by rw [takL_len]; exact h)]; simp
    · rw [if_neg e, takL_at _ _ _ _ h]
      congr 3
      simp only [List.mem_append, List.mem_singleton]
      exact propext ⟨fun h => .inl h, fun h => by rcases h with h | h; exact h; exact absurd (by omega) e⟩
  · rw [List.getElem?_eq_none (by rw [List.length_set, takL_len]; omega), List.getElem?_eq_none (by rw [takL_len]; omega)]

set_option maxHeartbeats 8000000 in
theorem reorders_any (a : Option Addr) (n cap : Nat) (zs : List Int) (N : Nat) (w : World) (ha : View .u32 w a zs) (hl : zs.length = n) (hw : Within 4294967296 zs) (hn : 4 * n ≤ 140737488351232) (hb0 : 1 ≤ N) (hb1 : N ≤ 65536) (r : Bool) (hr : r = true ↔ IsWay zs (N : Int)) :
    Calls Try.prog 24 #[.slice a n cap, .int .u32 (N : Int)] w fun e w' => e = .returned (.bool r) ∧ Below w.heap.size w w' := by
  obtain ⟨i0, hi, hz0, hz1, hz2⟩ := info_parts Bools.info
  have HI : Hid (Try.prog.info? 4 = some i0 ∧ i0.zero = some (.bool false) ∧ i0.size = 1 ∧ i0.bytes = 1) := ⟨hi, hz0, hz1, hz2⟩
  have HR := hide hr
  have HV := hide ha
  have HL := hide hl
  have HW := hide hw
  have HN : Hid (4 * n ≤ 140737488351232) := hn
  have hcv : IntKind.i64.wrap (N : Int) = (N : Int) := by rw [IntKind.wrap_i64]; omega
  clear hi hz0 hz1 hz2 hr ha hl hw
  by_cases h1 : n = N
  · subst h1
    have hnn : ((n : Int) != (n : Int)) = false := by simp
    have hnl : (0 : Int) < (n : Int) := by omega
    obtain ⟨b, off, rfl, hbb, c0⟩ := HV.out 0 (by rw [HL.out]; omega)
    rw [Nat.add_zero] at c0
    by_cases h2 : nth zs 0 = 0
    · rw [h2] at c0
      have HM : Hid (∀ k, k < n → zs.take (k + 1) = zs.take k ++ [nth zs k]) := fun k hk => take_snocW zs k (by rw [HL.out]; exact hk)
      have HTS : Hid (∀ (k q : Nat), k < n → nth zs k = (q : Int) → (takL zs k n).set q (.bool true) = takL zs (k + 1) n) := fun k q hk hq => takL_set zs k n q (by rw [HL.out]; exact hk) hq
      have HAL : Hid (zs.take n = zs) := List.take_of_length_le (by rw [HL.out]; exact Nat.le_refl _)
      have HPRE : Hid (∀ k, IsWay zs (n : Int) → (zs.take k).Nodup ∧ ∀ z ∈ zs.take k, z < (n : Int)) := fun k h => ⟨h.2.2.2.sublist (List.take_sublist _ _), fun z hz => h.2.2.1 z (List.mem_of_mem_take hz)⟩
      have HFIN : Hid (zs.Nodup → (∀ z ∈ zs, z < (n : Int)) → IsWay zs (n : Int)) := fun q1 q2 => ⟨by rw [HL.out], h2, q2, q1⟩
      clear h2
      go_enter Try.func24, Try.ntmps24
      go_wp2_with (at_make; refine wpList_make_full _ rfl _ _ 85 rfl w.heap.size 4 i0 (.bool false) 1 Try.underlying85 HI.out.1 HI.out.2.1 HI.out.2.2.1 _ _ _ _ n rfl rfl (by omega) (by omega) (by rw [HI.out.2.2.2]; omega) (by unfold maxLen; omega) (Nat.le_refl _) ?_)
      intro w1 hown1 hgrow1
      have hb1 : Below w.heap.size w w1 := (Below.refl _ w).grown hgrow1 (Nat.le_refl _) (by simp)
      have hr1 : w1.ownsRow w.heap.size 4 1 (.slice (some ⟨w.heap.size, 0, none⟩) n n) n (takL zs 0 n) := by
        rw [takL_zero]
        have e1 : (madeCells #[Value.bool false] n).toList = List.replicate n (.bool false) := toList_madeCells_one (.bool false) n
        rw [← e1]; exact hown1
      have H1 := hide (And.intro hr1 hb1)
      clear hown1 hgrow1 hb1 hr1 c0 hnn hcv
      go_wp2_with fail
      go_loopw [23] (fun i wr => ∃ k : Nat, k ≤ n ∧ i = .int .i64 k ∧ wr.ownsRow w.heap.size 4 1 (.slice (some ⟨w.heap.size, 0, none⟩) n n) n (takL zs k n) ∧ Hid ((zs.take k).Nodup ∧ ∀ z ∈ zs.take k, z < (n : Int)) ∧ Below w.heap.size w wr) (fun i _ => n - (intOf i).toNat)
      case atStart => exact ⟨0, Nat.zero_le _, rfl, H1.out.1, ⟨by simp, fun z hz => by simp at hz⟩, H1.out.2⟩
      case round =>
        obtain ⟨k, hk, rfl, hO, HD, hB⟩ := hrel
        clear H1
        by_cases hlt : k < n
        · obtain ⟨b', off', e', _, ck⟩ := HV.out.below hB k (by rw [HL.out]; exact hlt)
          simp only [Option.some.injEq, Addr.mk.injEq, and_true] at e'
          obtain ⟨rfl, rfl⟩ := e'
          have hki : (k : Int) < (n : Int) := by omega
          have hk0 : (0 : Int) ≤ (k : Int) := by omega
          have hx := HW.out.at (k := k) (by rw [HL.out]; exact hlt)
          have hm := HM.out k hlt
          have hts := HTS.out k
          generalize nth zs k = x at *
          obtain ⟨q, rfl⟩ : ∃ q : Nat, x = (q : Int) := ⟨x.toNat, by omega⟩
          have HBE := hide hB
          by_cases hq : q < n
          · have hq1 : decide ((n : Int) ≤ (q : Int)) = false := by simpa using hq
            have hqi : (q : Int) < (n : Int) := by omega
            have hq0 : (0 : Int) ≤ (q : Int) := by omega
            have e1 := (hO.cellAt q (by omega)).trans (takL_at zs k n q hq)
            have e2 := hO.frozenAt q
            have hst := (hO.stored q (.bool true)).1
            rw [hts q hlt rfl] at hst
            have HO2 := hide hst
            by_cases hin : (q : Int) ∈ zs.take k
            · rw [decide_eq_true hin] at e1
              have HF : Hid (r = false) := by
                show _ = _
                cases hrr : r with
                | false => rfl
                | true =>
                  have := (HPRE.out (k + 1) (HR.out.1 hrr)).1
                  rw [hm, List.nodup_append] at this
                  exact absurd rfl (this.2.2 _ hin _ (by simp))
              clear hin hm hts hst hO HD hB
              go_wp2_with fail
              go_ret
              exact ⟨by rw [HF.out]; rfl, HBE.out⟩
            · rw [decide_eq_false hin] at e1
              have HD2 : Hid ((zs.take (k + 1)).Nodup ∧ ∀ z ∈ zs.take (k + 1), z < (n : Int)) := by
                show _ ∧ _
                rw [hm]
                refine ⟨List.nodup_append.2 ⟨HD.out.1, by simp, fun x hx y hy e => ?_⟩, fun z hz => ?_⟩
                · rw [List.mem_singleton] at hy; exact hin (by rw [← hy, ← e]; exact hx)
                · rcases List.mem_append.1 hz with hz | hz
                  · exact HD.out.2 z hz
                  · rw [List.mem_singleton] at hz; omega
              clear hin hm hts hst hO HD hB
              go_wp2_with fail
              go_roundw
              case rel => exact ⟨k + 1, by omega, by go_num, HO2.out, HD2, HBE.out.setCell (p := ⟨w.heap.size, q, none⟩) (Nat.le_refl _) _⟩
              case measure => simp [intOf]; omega
          · have hq1 : (n : Int) ≤ (q : Int) := by omega
            have HF : Hid (r = false) := by
              show _ = _
              cases hrr : r with
              | false => rfl
              | true =>
                have := (HPRE.out (k + 1) (HR.out.1 hrr)).2 (q : Int) (by rw [hm]; simp)
                omega
            clear hm hts hO HD hB hq
            go_wp2_with fail
            go_ret
            exact ⟨by rw [HF.out]; rfl, HBE.out⟩
        · obtain rfl : k = n := by omega
          have HF : Hid (r = true) := HR.out.2 (by have h := HD.out; rw [HAL.out] at h; exact HFIN.out h.1 h.2)
          have HBE := hide hB
          clear hO HD hB
          go_wp2_with fail
          go_ret
          exact ⟨by rw [HF.out]; rfl, HBE.out⟩
    · have h2' : (nth zs 0 != 0) = true := by simpa using h2
      have HF : Hid (r = false) := by
        show _ = _
        cases hrr : r with
        | false => rfl
        | true => exact absurd (HR.out.1 hrr).2.1 h2
      generalize nth zs 0 = x at *
      clear h2
      go_enter Try.func24, Try.ntmps24
      go_wp2_with fail
      go_ret
      exact ⟨by rw [HF.out]; rfl, Below.refl _ _⟩
  · have h1' : ((n : Int) != (N : Int)) = true := by simpa using (by omega : (n : Int) ≠ (N : Int))
    have HF : Hid (r = false) := by
      show _ = _
      cases hrr : r with
      | false => rfl
      | true => exfalso; have := (HR.out.1 hrr).1; rw [HL.out] at this; omega
    clear h1
    go_enter Try.func24, Try.ntmps24
    go_wp2_with fail
    go_ret
    exact ⟨by rw [HF.out]; rfl, Below.refl _ _⟩

end Go.Proofs.Ytjckgnpbjekhbaa

/-
  Rename of the package ids.
-/
namespace Go.Proofs.Ytjckgnpbjekhbaa
open Go.RowKit
set_option linter.unusedVariables false
set_option linter.unusedSimpArgs false
set_option maxRecDepth 10000

set_option maxHeartbeats 2000000 in
/-- The closure: the number at an id's place. -/
theorem rename1_any (cb : Nat) (a : Option Addr) (n c : Nat) (zs : List Int) (id : Int) (w : World) (hc : w.cell? ⟨cb, 0, none⟩ = some (.slice a n c)) (hv : View .u32 w a zs) (hl : zs.length = n) (h0 : 0 ≤ id) (h1 : id < (n : Int)) :
    Calls Try.prog 25 #[.int .u32 id, .pointer (some ⟨cb, 0, none⟩)] w fun e w' => e = .returned (.int .u32 (fW zs id)) ∧ w = w' := by
  obtain ⟨k, rfl⟩ : ∃ k : Nat, id = (k : Int) := ⟨id.toNat, by omega⟩
  rw [fW_nat]
  obtain ⟨b, off, rfl, _, c1⟩ := hv k (by omega)
  have hk0 : (0 : Int) ≤ (k : Int) := by omega
  generalize nth zs k = v at *
  clear hv hl h0
  go_enter Try.func25, Try.ntmps25
  go_wp2_with fail
  go_ret
  exact ⟨rfl, rfl⟩

/-- Boxes of Rename: the module, the numbers, the answer's module and spot. -/
structure RenB (w : World) (gen bnd : Int) (a : Option Addr) (n c : Nat) (ta : Option Addr) (tn tc : Nat) (W : World) : Prop where
  mbox : W.heap[w.heap.size]? = some (.cells #[.int .u32 gen, .int .u32 bnd, .slice a n c] 25 (0, 0))
  tbox : W.heap[w.heap.size + 1]? = some (.cells #[.slice ta tn tc] 28 (0, 0))
  rbox : W.heap[w.heap.size + 2]? = some (.cells #[.int .u32 0, .int .u32 0, .slice none 0 0] 25 (0, 0))
  sbox : W.heap[w.heap.size + 3]? = some (.cells #[.int .i64 0, .int .i64 0] 31 (0, 0))
  bel : Below w.heap.size w W
theorem RenB.below {w W W' : World} {gen bnd : Int} {a : Option Addr} {n c : Nat} {ta : Option Addr} {tn tc : Nat} (h : RenB w gen bnd a n c ta tn tc W) (hb : Below W.heap.size W W') : RenB w gen bnd a n c ta tn tc W' :=
  ⟨(hb.block _ (Array.getElem?_eq_some_iff.1 h.mbox).1).trans h.mbox, (hb.block _ (Array.getElem?_eq_some_iff.1 h.tbox).1).trans h.tbox, (hb.block _ (Array.getElem?_eq_some_iff.1 h.rbox).1).trans h.rbox, (hb.block _ (Array.getElem?_eq_some_iff.1 h.sbox).1).trans h.sbox, h.bel.trans (hb.mono h.bel.size)⟩
theorem RenB.size {w W : World} {gen bnd : Int} {a : Option Addr} {n c : Nat} {ta : Option Addr} {tn tc : Nat} (h : RenB w gen bnd a n c ta tn tc W) : w.heap.size + 3 < W.heap.size := (Array.getElem?_eq_some_iff.1 h.sbox).1
theorem five_setR {W : World} {b c T U : Nat} {x0 x1 x2 y0 y1 : Value} (hb : W.heap[b]? = some (.cells #[x0, x1, x2] T (0, 0))) (hc : W.heap[c]? = some (.cells #[y0, y1] U (0, 0))) (hne : b ≠ c) (u0 u1 u2 v0 v1 : Value) :
    (((((W.setCell ⟨b, 0, none⟩ u0).setCell ⟨b, 1, none⟩ u1).setCell ⟨b, 2, none⟩ u2).setCell ⟨c, 0, none⟩ v0).setCell ⟨c, 1, none⟩ v1).heap[b]? = some (.cells #[u0, u1, u2] T (0, 0)) ∧
    (((((W.setCell ⟨b, 0, none⟩ u0).setCell ⟨b, 1, none⟩ u1).setCell ⟨b, 2, none⟩ u2).setCell ⟨c, 0, none⟩ v0).setCell ⟨c, 1, none⟩ v1).heap[c]? = some (.cells #[v0, v1] U (0, 0)) := by
  have hne' : ¬ c = b := fun e => hne e.symm
  constructor <;> simp [World.setCell, Array.getElem?_modify, hb, hc, hne, hne']
theorem five_belowR {w W : World} (h : Below w.heap.size w W) (u0 u1 u2 v0 v1 : Value) : Below w.heap.size w (((((W.setCell ⟨w.heap.size + 2, 0, none⟩ u0).setCell ⟨w.heap.size + 2, 1, none⟩ u1).setCell ⟨w.heap.size + 2, 2, none⟩ u2).setCell ⟨w.heap.size + 3, 0, none⟩ v0).setCell ⟨w.heap.size + 3, 1, none⟩ v1) :=
  ((((h.setCell (by simp) _).setCell (by simp) _).setCell (by simp) _).setCell (by simp) _).setCell (by simp) _

theorem shape_max9 {b : Int} {l : List InstT} (h : (shapeE b l).1 = 0) : b ≠ 0 ∧ b ≤ 65536 := by
  unfold shapeE at h
  split at h
  · cases h
  · omega

set_option maxHeartbeats 8000000 in
theorem idsRename_bad (gen : Int) (N : Nat) (a : Option Addr) (n c : Nat) (l : List InstT) (ta : Option Addr) (tn tc : Nat) (zs : List Int) (w : World) (hv : InstsV w a l) (hok : InstsOk l) (hl : l.length = n) (hn : 40 * n ≤ 140737488351232) (g0 : 0 ≤ gen) (g1 : gen < 4294967296) (hN : N < 4294967296) (tv : View .u32 w ta zs) (tl : zs.length = tn) (tw : Within 4294967296 zs) (tr : 4 * tn ≤ 140737488351232) (hE : (shapeE (N : Int) l).1 ≠ 0) :
    Calls Try.prog 9 #[modV gen (N : Int) a n c, .slice ta tn tc] w fun e w' => e = .returned (.tuple #[.agg #[.int .u32 0, .int .u32 0, .slice none 0 0], .agg #[.int .i64 (shapeE (N : Int) l).1, .int .i64 (shapeE (N : Int) l).2]]) ∧ Below w.heap.size w w' := by
  have hb0 : Below w.heap.size w ((((w.alloc (.cells #[.int .u32 gen, .int .u32 (N : Int), .slice a n c] 25)).alloc (.cells #[.slice ta tn tc] 28)).alloc (.cells #[.int .u32 0, .int .u32 0, .slice none 0 0] 25)).alloc (.cells #[.int .i64 0, .int .i64 0] 31)) := ((((Below.refl _ w).alloc (Nat.le_refl _) _).alloc (by simp) _).alloc (by simp; omega) _).alloc (by simp; omega) _
  have hR0 : RenB w gen (N : Int) a n c ta tn tc ((((w.alloc (.cells #[.int .u32 gen, .int .u32 (N : Int), .slice a n c] 25)).alloc (.cells #[.slice ta tn tc] 28)).alloc (.cells #[.int .u32 0, .int .u32 0, .slice none 0 0] 25)).alloc (.cells #[.int .i64 0, .int .i64 0] 31)) := by
    refine ⟨?_, ?_, ?_, ?_, hb0⟩
    · rw [Below.heap_alloc _ _ _ (by simp; omega), Below.heap_alloc _ _ _ (by simp; omega), Below.heap_alloc _ _ _ (by simp)]; exact heap_alloc_new _ _
    · rw [Below.heap_alloc _ _ _ (by simp), Below.heap_alloc _ _ _ (by simp)]; have := heap_alloc_new (w.alloc (.cells #[.int .u32 gen, .int .u32 (N : Int), .slice a n c] 25)) (.cells #[.slice ta tn tc] 28); simpa using this
    · rw [Below.heap_alloc _ _ _ (by simp)]; have := heap_alloc_new ((w.alloc (.cells #[.int .u32 gen, .int .u32 (N : Int), .slice a n c] 25)).alloc (.cells #[.slice ta tn tc] 28)) (.cells #[.int .u32 0, .int .u32 0, .slice none 0 0] 25); simpa using this
    · have := heap_alloc_new (((w.alloc (.cells #[.int .u32 gen, .int .u32 (N : Int), .slice a n c] 25)).alloc (.cells #[.slice ta tn tc] 28)).alloc (.cells #[.int .u32 0, .int .u32 0, .slice none 0 0] 25)) (.cells #[.int .i64 0, .int .i64 0] 31); simpa using this
  have hSh := codeShape_any gen (N : Int) a n c l _ g0 g1 (by omega) (by omega) (hv.below hb0) hok hl hn
  have HR0 := hide hR0
  have HV := hide hv
  have HTV := hide tv
  generalize shapeE (N : Int) l = E at *
  obtain ⟨E1, E2⟩ := E
  simp only at hE hSh ⊢
  have hE' : (E1 != 0) = true := by simpa using hE
  unfold modV at *
  clear hb0 hR0 hv tv
  go_enter Try.func9, Try.ntmps9
  go_wp2_with fail
  generalize (((w.alloc (.cells #[.int .u32 gen, .int .u32 (N : Int), .slice a n c] 25)).alloc (.cells #[.slice ta tn tc] 28)).alloc (.cells #[.int .u32 0, .int .u32 0, .slice none 0 0] 25)).alloc (.cells #[.int .i64 0, .int .i64 0] 31) = W0 at *
  refine hSh.mono ?_
  rintro e w1 ⟨rfl, hb1⟩
  have hba : Below w1.heap.size w1 (w1.alloc (.cells #[.int .i64 E1, .int .i64 (E2 : Int)] 31)) := (Below.refl _ w1).alloc (Nat.le_refl _) _
  have HR1 := hide ((HR0.out.below hb1).below hba)
  have HT := hide (heap_alloc_new w1 (.cells #[.int .i64 E1, .int .i64 (E2 : Int)] 31))
  have HW1 : Hid (w.heap.size + 3 < w1.heap.size) := Nat.lt_of_lt_of_le HR0.out.size hb1.size
  clear hSh hb1 hba HR0
  go_wp2_with fail
  generalize w1.alloc (.cells #[.int .i64 E1, .int .i64 (E2 : Int)] 31) = W1 at *
  generalize w1.heap.size = B at *
  obtain ⟨t0, t1, _⟩ := cell_of_two HT.out
  obtain ⟨rr, rf⟩ := one_block HR1.out.rbox
  obtain ⟨ss, sf⟩ := one_block HR1.out.sbox
  have r0 := rr 0
  have r1 := rr 1
  have r2 := rr 2
  have s0 := ss 0
  have s1 := ss 1
  have hne : B ≠ w.heap.size + 3 := by have := HW1.out; omega
  have hne2 : B ≠ w.heap.size + 2 := by have := HW1.out; omega
  clear rr ss
  refine wp_norm ?_
  go_region
  all_goals
    rw [onNormal_normal]
    obtain ⟨f1, f2⟩ := five_setR HR1.out.rbox HR1.out.sbox (by omega) (.int .u32 0) (.int .u32 0) (.slice none 0 0) (.int .i64 E1) (.int .i64 (E2 : Int))
    have hB5 := five_belowR HR1.out.bel (.int .u32 0) (.int .u32 0) (.slice none 0 0) (.int .i64 E1) (.int .i64 (E2 : Int))
    clear r0 r1 r2 s0 s1 rf sf
    obtain ⟨p1, _⟩ := one_block f1
    obtain ⟨p2, _⟩ := one_block f2
    have y0 := p1 0
    have y1 := p1 1
    have y2 := p1 2
    have z0 := p2 0
    have z1 := p2 1
    go_wp2_with fail
    refine bodyPost_ret (v := .tuple #[.agg #[.int .u32 0, .int .u32 0, .slice none 0 0], .agg #[.int .i64 E1, .int .i64 (E2 : Int)]]) (by first | (simp [results, Try.results9, go_sem, y0, y1, y2, z0, z1]; done) | (simp [results, Try.results9, go_sem, World.drew] at *; simp [y0, y1, y2, z0, z1])) rfl ⟨rfl, by first | exact hB5 | exact hB5.drew⟩

set_option maxHeartbeats 8000000 in
theorem idsRename_way (gen : Int) (N : Nat) (a : Option Addr) (n c : Nat) (l : List InstT) (ta : Option Addr) (tn tc : Nat) (zs : List Int) (w : World) (hv : InstsV w a l) (hok : InstsOk l) (hl : l.length = n) (hn : 40 * n ≤ 140737488351232) (g0 : 0 ≤ gen) (g1 : gen < 4294967296) (hN : N < 4294967296) (tv : View .u32 w ta zs) (tl : zs.length = tn) (tw : Within 4294967296 zs) (tr : 4 * tn ≤ 140737488351232) (hE : shapeE (N : Int) l = (0, 0)) (hw : ¬ IsWay zs (N : Int)) :
    Calls Try.prog 9 #[modV gen (N : Int) a n c, .slice ta tn tc] w fun e w' => e = .returned (.tuple #[.agg #[.int .u32 0, .int .u32 0, .slice none 0 0], .agg #[.int .i64 2, .int .i64 0]]) ∧ Below w.heap.size w w' := by
  have hb0 : Below w.heap.size w ((((w.alloc (.cells #[.int .u32 gen, .int .u32 (N : Int), .slice a n c] 25)).alloc (.cells #[.slice ta tn tc] 28)).alloc (.cells #[.int .u32 0, .int .u32 0, .slice none 0 0] 25)).alloc (.cells #[.int .i64 0, .int .i64 0] 31)) := ((((Below.refl _ w).alloc (Nat.le_refl _) _).alloc (by simp) _).alloc (by simp; omega) _).alloc (by simp; omega) _
  have hR0 : RenB w gen (N : Int) a n c ta tn tc ((((w.alloc (.cells #[.int .u32 gen, .int .u32 (N : Int), .slice a n c] 25)).alloc (.cells #[.slice ta tn tc] 28)).alloc (.cells #[.int .u32 0, .int .u32 0, .slice none 0 0] 25)).alloc (.cells #[.int .i64 0, .int .i64 0] 31)) := by
    refine ⟨?_, ?_, ?_, ?_, hb0⟩
    · rw [Below.heap_alloc _ _ _ (by simp; omega), Below.heap_alloc _ _ _ (by simp; omega), Below.heap_alloc _ _ _ (by simp)]; exact heap_alloc_new _ _
    · rw [Below.heap_alloc _ _ _ (by simp), Below.heap_alloc _ _ _ (by simp)]; have := heap_alloc_new (w.alloc (.cells #[.int .u32 gen, .int .u32 (N : Int), .slice a n c] 25)) (.cells #[.slice ta tn tc] 28); simpa using this
    · rw [Below.heap_alloc _ _ _ (by simp)]; have := heap_alloc_new ((w.alloc (.cells #[.int .u32 gen, .int .u32 (N : Int), .slice a n c] 25)).alloc (.cells #[.slice ta tn tc] 28)) (.cells #[.int .u32 0, .int .u32 0, .slice none 0 0] 25); simpa using this
    · have := heap_alloc_new (((w.alloc (.cells #[.int .u32 gen, .int .u32 (N : Int), .slice a n c] 25)).alloc (.cells #[.slice ta tn tc] 28)).alloc (.cells #[.int .u32 0, .int .u32 0, .slice none 0 0] 25)) (.cells #[.int .i64 0, .int .i64 0] 31); simpa using this
  have hSh := codeShape_any gen (N : Int) a n c l _ g0 g1 (by omega) (by omega) (hv.below hb0) hok hl hn
  have HR0 := hide hR0
  have HV := hide hv
  have HTV := hide tv
  have hbm := shape_max9 (b := (N : Int)) (l := l) (by rw [hE])
  rw [hE] at hSh
  have HRO := hide fun wx (h : View .u32 wx ta zs) => reorders_any ta tn tc zs N wx h tl tw tr (by omega) (by omega) false (by simp [hw])
  clear hw hE hbm
  unfold modV at *
  clear hb0 hR0 hv tv
  go_enter Try.func9, Try.ntmps9
  go_wp2_with fail
  generalize (((w.alloc (.cells #[.int .u32 gen, .int .u32 (N : Int), .slice a n c] 25)).alloc (.cells #[.slice ta tn tc] 28)).alloc (.cells #[.int .u32 0, .int .u32 0, .slice none 0 0] 25)).alloc (.cells #[.int .i64 0, .int .i64 0] 31) = W0 at *
  refine hSh.mono ?_
  rintro e w1 ⟨rfl, hb1⟩
  have hba : Below w1.heap.size w1 (w1.alloc (.cells #[.int .i64 0, .int .i64 0] 31)) := (Below.refl _ w1).alloc (Nat.le_refl _) _
  have HR1 := hide ((HR0.out.below hb1).below hba)
  have HT := hide (heap_alloc_new w1 (.cells #[.int .i64 0, .int .i64 0] 31))
  have HW1 : Hid (w.heap.size + 3 < w1.heap.size) := Nat.lt_of_lt_of_le HR0.out.size hb1.size
  clear hSh hb1 hba HR0
  obtain ⟨mm, _⟩ := one_block HR1.out.mbox
  obtain ⟨tt, _⟩ := one_block HR1.out.tbox
  have m1 := mm 1
  have x0 := tt 0
  have hro := HRO.out _ (HTV.out.below HR1.out.bel)
  clear mm tt HRO
  go_wp2_with fail
  generalize w1.alloc (.cells #[.int .i64 0, .int .i64 0] 31) = W1 at *
  generalize w1.heap.size = B at *
  refine hro.mono ?_
  rintro e w2 ⟨rfl, hb2⟩
  have HR2 := hide (HR1.out.below hb2)
  obtain ⟨rr, rf⟩ := one_block HR2.out.rbox
  obtain ⟨ss, sf⟩ := one_block HR2.out.sbox
  have r0 := rr 0
  have r1 := rr 1
  have r2 := rr 2
  have s0 := ss 0
  have s1 := ss 1
  clear rr ss hro hb2 HR1 m1 x0
  go_wp2_with fail
  obtain ⟨f1, f2⟩ := five_setR HR2.out.rbox HR2.out.sbox (by omega) (.int .u32 0) (.int .u32 0) (.slice none 0 0) (.int .i64 2) (.int .i64 0)
  have hB5 := five_belowR HR2.out.bel (.int .u32 0) (.int .u32 0) (.slice none 0 0) (.int .i64 2) (.int .i64 0)
  obtain ⟨p1, _⟩ := one_block f1
  obtain ⟨p2, _⟩ := one_block f2
  have y0 := p1 0
  have y1 := p1 1
  have y2 := p1 2
  have z0 := p2 0
  have z1 := p2 1
  exact bodyPost_ret (v := .tuple #[.agg #[.int .u32 0, .int .u32 0, .slice none 0 0], .agg #[.int .i64 2, .int .i64 0]]) (by simp [results, Try.results9, go_sem, y0, y1, y2, z0, z1]) rfl ⟨rfl, hB5⟩

set_option maxHeartbeats 8000000 in
theorem idsRename_ok (gen : Int) (N : Nat) (a : Option Addr) (n c : Nat) (l : List InstT) (ta : Option Addr) (tn tc : Nat) (zs : List Int) (w : World) (hv : InstsV w a l) (hok : InstsOk l) (hl : l.length = n) (hn : 40 * n ≤ 140737488351232) (g0 : 0 ≤ gen) (g1 : gen < 4294967296) (hN : N < 4294967296) (tv : View .u32 w ta zs) (tl : zs.length = tn) (tw : Within 4294967296 zs) (tr : 4 * tn ≤ 140737488351232) (hE : shapeE (N : Int) l = (0, 0)) (hw : IsWay zs (N : Int)) :
    Calls Try.prog 9 #[modV gen (N : Int) a n c, .slice ta tn tc] w fun e w' => ∃ g, e = .returned (.tuple #[modV gen (N : Int) (some ⟨g, 0, none⟩) n n, .agg #[.int .i64 0, .int .i64 0]]) ∧ w.heap.size ≤ g ∧ RowT w' w.heap.size g n n (turnL (fW zs) l) ∧ Below w.heap.size w w' := by
  have hb0 : Below w.heap.size w ((((w.alloc (.cells #[.int .u32 gen, .int .u32 (N : Int), .slice a n c] 25)).alloc (.cells #[.slice ta tn tc] 28)).alloc (.cells #[.int .u32 0, .int .u32 0, .slice none 0 0] 25)).alloc (.cells #[.int .i64 0, .int .i64 0] 31)) := ((((Below.refl _ w).alloc (Nat.le_refl _) _).alloc (by simp) _).alloc (by simp; omega) _).alloc (by simp; omega) _
  have hR0 : RenB w gen (N : Int) a n c ta tn tc ((((w.alloc (.cells #[.int .u32 gen, .int .u32 (N : Int), .slice a n c] 25)).alloc (.cells #[.slice ta tn tc] 28)).alloc (.cells #[.int .u32 0, .int .u32 0, .slice none 0 0] 25)).alloc (.cells #[.int .i64 0, .int .i64 0] 31)) := by
    refine ⟨?_, ?_, ?_, ?_, hb0⟩
    · rw [Below.heap_alloc _ _ _ (by simp; omega), Below.heap_alloc _ _ _ (by simp; omega), Below.heap_alloc _ _ _ (by simp)]; exact heap_alloc_new _ _
    · rw [Below.heap_alloc _ _ _ (by simp), Below.heap_alloc _ _ _ (by simp)]; have := heap_alloc_new (w.alloc (.cells #[.int .u32 gen, .int .u32 (N : Int), .slice a n c] 25)) (.cells #[.slice ta tn tc] 28); simpa using this
    · rw [Below.heap_alloc _ _ _ (by simp)]; have := heap_alloc_new ((w.alloc (.cells #[.int .u32 gen, .int .u32 (N : Int), .slice a n c] 25)).alloc (.cells #[.slice ta tn tc] 28)) (.cells #[.int .u32 0, .int .u32 0, .slice none 0 0] 25); simpa using this
    · have := heap_alloc_new (((w.alloc (.cells #[.int .u32 gen, .int .u32 (N : Int), .slice a n c] 25)).alloc (.cells #[.slice ta tn tc] 28)).alloc (.cells #[.int .u32 0, .int .u32 0, .slice none 0 0] 25)) (.cells #[.int .i64 0, .int .i64 0] 31); simpa using this
  have hSh := codeShape_any gen (N : Int) a n c l _ g0 g1 (by omega) (by omega) (hv.below hb0) hok hl hn
  have HR0 := hide hR0
  have HV := hide hv
  have HTV := hide tv
  have hbm := shape_max9 (b := (N : Int)) (l := l) (by rw [hE])
  have HIN : Hid (∀ k, k < n → ((nthI l k).2.1 ≠ 0 → InB N (nthI l k).2.1) ∧ ((nthI l k).2.2.1 ≠ 0 → InB N (nthI l k).2.2.1) ∧ ∀ j, j < (nthI l k).2.2.2.length → (nthA (nthI l k).2.2.2 j).1 = 1 → InB N (nthA (nthI l k).2.2.2 j).2.1) := fun k hk => ids_in (hok k (by omega)) (shape_each (by rw [hE]) k (by omega))
  have htN : (tn : Int) = (N : Int) := by rw [← tl]; exact hw.1
  rw [hE] at hSh
  have HRO := hide fun wx (h : View .u32 wx ta zs) => reorders_any ta tn tc zs N wx h tl tw tr (by omega) (by omega) true (by simp [hw])
  have HWI := hide fun wx (cb : Nat) (h : InstsV wx a l) (hC : ∀ wy id, Below wx.heap.size wx wy → InB N id → Calls Try.prog 25 #[.int .u32 id, .pointer (some ⟨cb, 0, none⟩)] wy fun e w' => e = .returned (.int .u32 (fW zs id)) ∧ wy = w') => withIdsN_any (fW zs) (InB N) cb gen (N : Int) (N : Int) a n c l wx h hok hl hn hC HIN.out
  have HTL := hide tl
  clear hw hE hbm
  unfold modV at *
  clear hb0 hR0 hv tv
  go_enter Try.func9, Try.ntmps9
  go_wp2_with fail
  generalize (((w.alloc (.cells #[.int .u32 gen, .int .u32 (N : Int), .slice a n c] 25)).alloc (.cells #[.slice ta tn tc] 28)).alloc (.cells #[.int .u32 0, .int .u32 0, .slice none 0 0] 25)).alloc (.cells #[.int .i64 0, .int .i64 0] 31) = W0 at *
  refine hSh.mono ?_
  rintro e w1 ⟨rfl, hb1⟩
  have hba : Below w1.heap.size w1 (w1.alloc (.cells #[.int .i64 0, .int .i64 0] 31)) := (Below.refl _ w1).alloc (Nat.le_refl _) _
  have HR1 := hide ((HR0.out.below hb1).below hba)
  have HT := hide (heap_alloc_new w1 (.cells #[.int .i64 0, .int .i64 0] 31))
  have HW1 : Hid (w.heap.size + 3 < w1.heap.size) := Nat.lt_of_lt_of_le HR0.out.size hb1.size
  clear hSh hb1 hba HR0
  obtain ⟨mm, _⟩ := one_block HR1.out.mbox
  obtain ⟨tt, _⟩ := one_block HR1.out.tbox
  have m1 := mm 1
  have x0 := tt 0
  have hro := HRO.out _ (HTV.out.below HR1.out.bel)
  clear mm tt HRO
  go_wp2_with fail
  generalize w1.alloc (.cells #[.int .i64 0, .int .i64 0] 31) = W1 at *
  generalize w1.heap.size = B at *
  refine hro.mono ?_
  rintro e w2 ⟨rfl, hb2⟩
  have HR2 := hide (HR1.out.below hb2)
  have hwi := HWI.out w2 (w.heap.size + 1) (HV.out.below HR2.out.bel) (fun wy id hb hid => by
    have hR := HR2.out.below hb
    exact rename1_any (w.heap.size + 1) ta tn tc zs id wy ((one_block hR.tbox).1 0) (HTV.out.below hR.bel) HTL.out (by have := hid.1; omega) (by have := hid.2; omega))
  obtain ⟨mm, _⟩ := one_block HR2.out.mbox
  have q0 := mm 0
  have q1 := mm 1
  have q2 := mm 2
  clear mm hro hb2 HR1 m1 x0 HWI HIN
  unfold modV at *
  go_wp2_with fail
  refine hwi.mono ?_
  rintro e w3 ⟨g, rfl, hg, hrow, hb3⟩
  have HR3 := hide (HR2.out.below hb3)
  obtain ⟨rr, rf⟩ := one_block HR3.out.rbox
  obtain ⟨ss, sf⟩ := one_block HR3.out.sbox
  have r0 := rr 0
  have r1 := rr 1
  have r2 := rr 2
  have s0 := ss 0
  have s1 := ss 1
  have hg2 : w.heap.size + 3 < g := Nat.lt_of_lt_of_le HR2.out.size hg
  have HRW := hide (((((hrow.far (b := w.heap.size + 2) (by omega) 0 (.int .u32 gen)).far (b := w.heap.size + 2) (by omega) 1 (.int .u32 (N : Int))).far (b := w.heap.size + 2) (by omega) 2 (.slice (some ⟨g, 0, none⟩) n n)).far (b := w.heap.size + 3) (by omega) 0 (.int .i64 0)).far (b := w.heap.size + 3) (by omega) 1 (.int .i64 0))
  clear rr ss hwi hb3 hrow HR2 q0 q1 q2
  go_wp2_with fail
  obtain ⟨f1, f2⟩ := five_setR HR3.out.rbox HR3.out.sbox (by omega) (.int .u32 gen) (.int .u32 (N : Int)) (.slice (some ⟨g, 0, none⟩) n n) (.int .i64 0) (.int .i64 0)
  have hB5 := five_belowR HR3.out.bel (.int .u32 gen) (.int .u32 (N : Int)) (.slice (some ⟨g, 0, none⟩) n n) (.int .i64 0) (.int .i64 0)
  obtain ⟨p1, _⟩ := one_block f1
  obtain ⟨p2, _⟩ := one_block f2
  have y0 := p1 0
  have y1 := p1 1
  have y2 := p1 2
  have z0 := p2 0
  have z1 := p2 1
  exact bodyPost_ret (v := .tuple #[.agg #[.int .u32 gen, .int .u32 (N : Int), .slice (some ⟨g, 0, none⟩) n n], .agg #[.int .i64 0, .int .i64 0]]) (by simp [results, Try.results9, go_sem, y0, y1, y2, z0, z1]) rfl ⟨g, rfl, by omega, ⟨HRW.out.row, by omega, HRW.out.each⟩, hB5⟩

end Go.Proofs.Ytjckgnpbjekhbaa

/-
  Check, Parts and Cut of the package layout.
-/
namespace Go.Proofs.Ytjckgnpbjekhbaa
open Go.RowKit
set_option linter.unusedVariables false
set_option linter.unusedSimpArgs false
set_option maxRecDepth 10000

/-- What a walk over a module leaves, as Check, Parts and Cut keep it: the walk in one box, the spot in another. -/
theorem kept_walk (w W0 w1 : World) (hb0 : Below w.heap.size w W0) (hb1 : Below W0.heap.size W0 w1) (ins fv : Value) (ps : Nat → Int) (k pt kd e1 e2 : Int) :
    let W2 := (w1.alloc (.cells #[.slice none 0 0, .int .i64 0, .int .i64 0, .int .i64 0, .int .i64 0, .int .i64 0, .int .i64 0, .int .i64 0, .int .i64 0, .int .i64 0, .int .i64 0, .int .i64 0, .int .i64 0, .int .i64 0, .int .i64 0, .int .i64 0, .int .i64 0, .int .i64 0, .int .i64 0, .int .i64 0, .int .i64 0, .slice none 0 0, .int .i64 0, .int .u8 0, .int .u16 0] 89)).alloc (.cells #[.int .i64 0, .int .i64 0] 31)
    let X := W2.setCells w1.heap.size 0 [ins, .int .i64 (ps 0), .int .i64 (ps 1), .int .i64 (ps 2), .int .i64 (ps 3), .int .i64 (ps 4), .int .i64 (ps 5), .int .i64 (ps 6), .int .i64 (ps 7), .int .i64 (ps 8), .int .i64 (ps 9), .int .i64 (ps 10), .int .i64 (ps 11), .int .i64 (ps 12), .int .i64 (ps 13), .int .i64 (ps 14), .int .i64 (ps 15), .int .i64 (ps 16), .int .i64 (ps 17), .int .i64 (ps 18), .int .i64 (ps 19), fv, .int .i64 k, .int .u8 pt, .int .u16 kd]
    W2.there w1.heap.size 0 25 ∧ X.heap[w1.heap.size]? = some (.cells #[ins, .int .i64 (ps 0), .int .i64 (ps 1), .int .i64 (ps 2), .int .i64 (ps 3), .int .i64 (ps 4), .int .i64 (ps 5), .int .i64 (ps 6), .int .i64 (ps 7), .int .i64 (ps 8), .int .i64 (ps 9), .int .i64 (ps 10), .int .i64 (ps 11), .int .i64 (ps 12), .int .i64 (ps 13), .int .i64 (ps 14), .int .i64 (ps 15), .int .i64 (ps 16), .int .i64 (ps 17), .int .i64 (ps 18), .int .i64 (ps 19), fv, .int .i64 k, .int .u8 pt, .int .u16 kd] 89 (0, 0)) ∧ X.heap[w1.heap.size + 1]? = some (.cells #[.int .i64 0, .int .i64 0] 31 (0, 0)) ∧ Below W0.heap.size W0 X ∧ w1.heap.size + 1 < X.heap.size ∧ w1.grownBy X none := by
  intro W2 X
  have h1 : W2.heap[w1.heap.size]? = some (.cells #[.slice none 0 0, .int .i64 0, .int .i64 0, .int .i64 0, .int .i64 0, .int .i64 0, .int .i64 0, .int .i64 0, .int .i64 0, .int .i64 0, .int .i64 0, .int .i64 0, .int .i64 0, .int .i64 0, .int .i64 0, .int .i64 0, .int .i64 0, .int .i64 0, .int .i64 0, .int .i64 0, .int .i64 0, .slice none 0 0, .int .i64 0, .int .u8 0, .int .u16 0] 89 (0, 0)) := by
    show (World.alloc _ _).heap[_]? = _
    rw [Below.heap_alloc _ _ _ (by simp)]; exact heap_alloc_new w1 _
  have h2 : W2.heap[w1.heap.size + 1]? = some (.cells #[.int .i64 0, .int .i64 0] 31 (0, 0)) := by
    have := heap_alloc_new (w1.alloc (.cells #[.slice none 0 0, .int .i64 0, .int .i64 0, .int .i64 0, .int .i64 0, .int .i64 0, .int .i64 0, .int .i64 0, .int .i64 0, .int .i64 0, .int .i64 0, .int .i64 0, .int .i64 0, .int .i64 0, .int .i64 0, .int .i64 0, .int .i64 0, .int .i64 0, .int .i64 0, .int .i64 0, .int .i64 0, .slice none 0 0, .int .i64 0, .int .u8 0, .int .u16 0] 89)) (.cells #[.int .i64 0, .int .i64 0] 31)
    rw [World.size_alloc] at this
    exact this
  have hg := setCells_grown w1.heap.size [ins, .int .i64 (ps 0), .int .i64 (ps 1), .int .i64 (ps 2), .int .i64 (ps 3), .int .i64 (ps 4), .int .i64 (ps 5), .int .i64 (ps 6), .int .i64 (ps 7), .int .i64 (ps 8), .int .i64 (ps 9), .int .i64 (ps 10), .int .i64 (ps 11), .int .i64 (ps 12), .int .i64 (ps 13), .int .i64 (ps 14), .int .i64 (ps 15), .int .i64 (ps 16), .int .i64 (ps 17), .int .i64 (ps 18), .int .i64 (ps 19), fv, .int .i64 k, .int .u8 pt, .int .u16 kd] 0 W2
  have hs : W2.heap.size = w1.heap.size + 2 := by show (World.alloc _ _).heap.size = _; simp
  have hb2 : Below w1.heap.size w1 W2 := ((Below.refl _ w1).alloc (Nat.le_refl _) _).alloc (by simp) _
  have hx : w1.grownBy X none := ⟨hg.os.trans hb2.os, hg.tape.trans hb2.tape, hg.output.trans hb2.output, Nat.le_trans hb2.size hg.size, fun i hi _ => (hg.block i (by omega) (by simp; omega)).trans (hb2.block i hi)⟩
  refine ⟨there_of_block h1 25 rfl, setCells_all [ins, .int .i64 (ps 0), .int .i64 (ps 1), .int .i64 (ps 2), .int .i64 (ps 3), .int .i64 (ps 4), .int .i64 (ps 5), .int .i64 (ps 6), .int .i64 (ps 7), .int .i64 (ps 8), .int .i64 (ps 9), .int .i64 (ps 10), .int .i64 (ps 11), .int .i64 (ps 12), .int .i64 (ps 13), .int .i64 (ps 14), .int .i64 (ps 15), .int .i64 (ps 16), .int .i64 (ps 17), .int .i64 (ps 18), .int .i64 (ps 19), fv, .int .i64 k, .int .u8 pt, .int .u16 kd] h1 rfl, (hg.block _ (by omega) (by simp)).trans h2, below_grown hb1 hx (fun g e => by cases e), Nat.lt_of_lt_of_le (show w1.heap.size + 1 < W2.heap.size by omega) hg.size, hx⟩

end Go.Proofs.Ytjckgnpbjekhbaa
