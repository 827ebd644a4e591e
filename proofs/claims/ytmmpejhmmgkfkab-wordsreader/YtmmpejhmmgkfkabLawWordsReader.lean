/-
  The law WordsReader returns true at every list of words and every list of calls, and nothing that was there has turned.
-/
import Derived.WalkSpells
import Derived.Test.YtmmpejhmmgkfkabKitCopyWords
import Derived.Test.YtmmpejhmmgkfkabKitSpoilWords
import Derived.Test.YtmmpejhmmgkfkabKitWords
import Derived.Test.YtmmpejhmmgkfkabWordsNew
import Derived.Test.YtmmpejhmmgkfkabWordsReaderCalls
namespace Go.Proofs.Ytmmpejhmmgkfkab
open Go.RowKit

/-- What can be read of a slice of pairs of integers. -/
def ViewP (w : World) (a : Option Addr) (qs : List (Int × Int)) : Prop :=
  ∀ j, j < qs.length → ∃ b off, a = some ⟨b, off, none⟩ ∧ b < w.heap.size ∧ w.cell? ⟨b, off + j * 2, none⟩ = some (.int .i64 (qs.getD j (0, 0)).1) ∧ w.cell? ⟨b, off + j * 2 + 1, none⟩ = some (.int .i64 (qs.getD j (0, 0)).2)

theorem viewP_nil {w : World} {a : Option Addr} : ViewP w a [] := fun j hj => by simp at hj
theorem viewP_mk {w : World} {x : Addr} {n : Nat} {f : Nat → Int × Int} (h : ∀ i, i < n → w.cell? (x.add (i * 2)) = some (.int .i64 (f i).1) ∧ w.cell? (x.add (i * 2 + 1)) = some (.int .i64 (f i).2)) : ViewP w (some x) ((List.range n).map f) := by
  intro j hj
  rw [List.length_map, List.length_range] at hj
  have h0 := (h 0 (by omega)).1
  obtain ⟨b, off, spot⟩ := x
  have hs : spot = none := by simpa [Addr.add] using World.cell?_spot h0
  subst hs
  obtain ⟨h1, h2⟩ := h j hj
  rw [Addr.add_lit] at h1 h2
  have e : ((List.range n).map f).getD j (0, 0) = f j := by simp [List.getD, hj]
  refine ⟨b, off, rfl, World.block_lt_of_cell? _ _ h1, ?_, ?_⟩
  · rw [h1, e]
  · rw [Nat.add_assoc, h2, e]

theorem Rdr.belowAll {W W0 w : World} {gr ga n cw p : Nat} {zs : List Int} (h : Rdr W0 w gr ga n cw p zs) (hb : Below W.heap.size W W0) (hg : W.heap.size ≤ gr) : Below W.heap.size W w :=
  hb.grown h.rd.grown hb.size (fun k hk => by cases hk; exact hg)

set_option maxRecDepth 10000 in
set_option maxHeartbeats 2000000 in
theorem reader_law (w : World) (a : Option Addr) (n cap : Nat) (zs : List Int) (hl : zs.length = n) (hv : View .u32 w a zs) (hw : Within 4294967296 zs) (hn : 4 * n ≤ 140737488351232) (hcap : n ≤ cap)
    (a' : Option Addr) (n' cap' : Nat) (qs : List (Int × Int)) (hl' : qs.length = n') (hv' : ViewP w a' qs) (hn' : 16 * n' ≤ 140737488351232) :
    Calls Try.prog 4 #[.slice a n cap, .slice a' n' cap'] w fun e w' => e = .returned (.bool true) ∧ Below w.heap.size w w' := by
  have HL : Hid (zs.length = n) := hl
  have HL' : Hid (qs.length = n') := hl'
  clear hl hl'
  go_enter Try.func4, Try.ntmps4
  go_wp2_with fail
  refine (copyWords_any a n cap zs w hv HL.out hn).mono ?_
  rintro e w1 ⟨rfl, hown1, hb1⟩
  have s1 := hb1.size
  have hg1 : w.heap.size < w1.heap.size := by
    rcases hown1.2 with ⟨h, _⟩ | ⟨g, cap', cur, hv', hg, hh, _⟩
    · cases h
    · cases hv'; exact (Array.getElem?_eq_some_iff.1 hh).1
  go_wp2_with fail
  refine (new_some ⟨w.heap.size, 0, none⟩ n n zs w1 (View.ofRow hown1 HL.out) HL.out hn).mono ?_
  rintro e w2 ⟨ga, cw, gr, rfl, hga, hgr, hcw, hbox, hvw, hb2⟩
  have s2 := hb2.size
  have hown2 := own_below hown1 hb2
  go_wp2_with fail
  refine (spoil_some w.heap.size n n w.heap.size zs w2 hown2 HL.out hn).mono ?_
  rintro e W0 ⟨rfl, hsp⟩
  have hR0 : Rdr W0 W0 gr ga n cw 0 zs := by
    have hbx : W0.heap[gr]? = some (.cells #[.slice (some ⟨ga, 0, none⟩) n cw, .int .i64 0] 54 (0, 0)) := by
      rw [hsp.block gr (Array.getElem?_eq_some_iff.1 hbox).1 (fun e => by cases e; omega)]; exact hbox
    refine ⟨⟨World.grownBy.refl _ _, hbx⟩, ?_, by omega, HL.out, Nat.zero_le _, hcw, hn, hw⟩
    intro j hj
    obtain ⟨b, off, e, hlt, hc⟩ := hvw j hj
    simp at e
    obtain ⟨rfl, rfl⟩ := e
    refine ⟨ga, 0, rfl, Nat.lt_of_lt_of_le hlt hsp.size, ?_⟩
    rw [← hc]
    exact World.cell?_of_block (w := w2) (hsp.block ga hlt (fun e => by cases e; omega))
  have hbW0 : Below w.heap.size w W0 := (hb1.trans (hb2.mono s1)).grown hsp (by omega) (fun k hk => by cases hk; exact Nat.le_refl _)
  have hgr' : w.heap.size ≤ gr := by omega
  clear hown1 hown2 hsp hbox hvw hb1 hb2 hga hgr hcw
  go_wp2_with fail
  refine (at_any hR0).mono ?_
  rintro e w3 ⟨rfl, rfl⟩
  go_wp2_with fail
  refine (left_any hR0).mono ?_
  rintro e w4 ⟨rfl, q4, rfl⟩
  have hR4 := hR0.drew q4
  generalize W0.drewN q4 = w4 at hR4
  clear hR0
  go_wp2
  go_loopw [7, 38] (fun v i wr => ∃ k p : Nat, k ≤ n' ∧ i = .int .i64 k ∧ v = .int .i64 p ∧ Rdr W0 wr gr ga n cw p zs) (fun _ i _ => n' - (intOf i).toNat)
  case atStart => exact ⟨0, 0, Nat.zero_le _, rfl, rfl, hR4⟩
  case round =>
    obtain ⟨k, p, hk, rfl, rfl, hR⟩ := hrel
    have hp := hR.le
    have hbr := hR.belowAll hbW0 hgr'
    clear hR4
    by_cases hlt : k < n'
    · obtain ⟨b', off', rfl, hb's, hq1, hq2⟩ := hv' k (by rw [HL'.out]; exact hlt)
      have g1 : wr.cell? ⟨b', off' + k * 2, none⟩ = _ := (hbr.cell (p := ⟨b', off' + k * 2, none⟩) hb's).trans hq1
      have g2 : wr.cell? ⟨b', off' + k * 2 + 1, none⟩ = _ := (hbr.cell (p := ⟨b', off' + k * 2 + 1, none⟩) hb's).trans hq2
      obtain ⟨⟨what, m⟩, hqe⟩ : ∃ x, x = qs.getD k (0, 0) := ⟨_, rfl⟩
      rw [← hqe] at g1 g2
      simp only at g1 g2
      clear hqe hq1 hq2
      have hpn : (p : Int) ≤ (n : Int) := by omega
      have hra : (if cap = p then a else Option.map (fun x => x.add p) a) = cutA a cap p := rfl
      have hRa : Rdr W0 (wr.alloc (.cells #[.int .i64 what, .int .i64 m] 37)) gr ga n cw p zs := hR.below ((Below.refl _ wr).alloc (Nat.le_refl _) _)
      have hva := hv.below (hRa.belowAll hbW0 hgr')
      have hvc := View.cut hva (by rw [HL.out]; exact hcap) p
      have hgrl := hR.rd.lt
      have hka : (wr.alloc (.cells #[.int .i64 what, .int .i64 m] 37)).cell? ⟨wr.heap.size, 1, none⟩ = some (.int .i64 m) := by simp
      clear hR hbr
      by_cases h0 : what = 0
      · subst h0
        by_cases hpl : p < n
        · obtain ⟨b, off, rfl, hbs, hc⟩ := hva p (by rw [HL.out]; exact hpl)
          have hcut : cutA (some ⟨b, off, none⟩) cap p = some ⟨b, off + p, none⟩ := by rw [cutA, if_neg (by omega), Option.map_some, Addr.add_lit]
          have hlen0 : (((n - p : Nat) : Int) == 0) = false := by simp; omega
          have hlen1 : (0 : Int) < ((n - p : Nat) : Int) := by omega
          go_wp2_with fail
          refine (word_some hRa hpl).mono ?_
          rintro e wq ⟨rfl, hRq⟩
          have hcq : wq.cell? ⟨b, off + p, none⟩ = some (.int .u32 (nth zs p)) := by
            obtain ⟨b2, o2, e2, _, hc2⟩ := hv.below (hRq.belowAll hbW0 hgr') p (by rw [HL.out]; exact hpl)
            simp at e2
            obtain ⟨rfl, rfl⟩ := e2
            exact hc2
          clear hc hvc hva hRa
          generalize nth zs p = x at hcq
          have hAt := at_any hRq
          have hLe := left_any hRq
          rw [show ((p + 1 : Nat) : Int) = (p : Int) + 1 by omega] at hAt hLe
          have HR := hRq
          go_wp2_with fail
          refine hAt.mono ?_
          rintro e w' ⟨rfl, rfl⟩
          go_wp2_with fail
          refine hLe.mono ?_
          rintro e w5 ⟨rfl, q5, rfl⟩
          go_wp2
          go_roundw
          case rel => exact ⟨k + 1, p + 1, by omega, by go_num, by go_num, HR.drew q5⟩
          case measure => simp [intOf]; omega
        · obtain rfl : p = n := by omega
          have hlen0 : (((p - p : Nat) : Int) == 0) = true := by simp
          go_wp2_with fail
          refine (word_none hRa).mono ?_
          rintro e wq ⟨rfl, hRq⟩
          clear hvc hva hRa
          have hAt := at_any hRq
          have hLe := left_any hRq
          have HR := hRq
          go_wp2_with fail
          refine hAt.mono ?_
          rintro e w' ⟨rfl, rfl⟩
          go_wp2_with fail
          refine hLe.mono ?_
          rintro e w5 ⟨rfl, q5, rfl⟩
          go_wp2
          go_roundw
          case rel => exact ⟨k + 1, p, by omega, by go_num, by go_num, HR.drew q5⟩
          case measure => simp [intOf]; omega
      · have b0 : (what == 0) = false := by simpa using h0
        by_cases h1 : what = 1
        · subst h1
          obtain ⟨s, kk, er, _, hk0, hk1, hz, hr, ht⟩ := texts_same (n - p) (zs.drop p) (by rw [List.length_drop, HL.out]) (within_drop hw) (by omega)
          obtain ⟨kn, rfl⟩ := Int.eq_ofNat_of_zero_le hk0
          have HZ : Hid (er ≠ 0 → s = ⟨#[]⟩ ∧ (kn : Int) = 0) := hz
          have hkn : p + kn ≤ n := by omega
          clear hz b0 h0
          go_wp2_with fail
          refine (hr (cutA a cap p) (cap - p) _ hvc).mono ?_
          rintro e wb ⟨rfl, hbb⟩
          have hRb := hRa.below hbb
          go_wp2_with fail
          refine (rtext_any hRb s kn er hk0 (by omega) HZ.out ht).mono ?_
          rw [Int.toNat_natCast]
          rintro e wq ⟨rfl, hRq⟩
          clear hvc hva hRa hRb hr ht hbb
          have hAt := at_any hRq
          have hLe := left_any hRq
          rw [show ((p + kn : Nat) : Int) = (p : Int) + (kn : Int) by omega] at hAt hLe
          have HR := hRq
          go_wp2_with fail
          refine hAt.mono ?_
          rintro e w' ⟨rfl, rfl⟩
          go_wp2_with fail
          refine hLe.mono ?_
          rintro e w5 ⟨rfl, q5, rfl⟩
          go_wp2
          go_roundw
          case rel => exact ⟨k + 1, p + kn, by omega, by go_num, by go_num, HR.drew q5⟩
          case measure => simp [intOf]; omega
        · have b1 : (what == 1) = false := by simpa using h1
          clear h0 h1
          by_cases hm0 : m < 0
          · go_wp2_with fail
            refine (rtake_neg m hRa hm0).mono ?_
            rintro e wq ⟨rfl, hRq, qq, hqq⟩
            have hcm : wq.cell? ⟨wr.heap.size, 1, none⟩ = some (.int .i64 m) := by rw [hqq]; exact hka
            clear hqq
            clear hvc hva hRa
            have hAt := at_any hRq
            have hLe := left_any hRq
            have HR := hRq
            go_wp2_with fail
            refine hAt.mono ?_
            rintro e w' ⟨rfl, rfl⟩
            go_wp2_with fail
            refine hLe.mono ?_
            rintro e w5 ⟨rfl, q5, rfl⟩
            go_wp2
            go_roundw
            case rel => exact ⟨k + 1, p, by omega, by go_num, by go_num, HR.drew q5⟩
            case measure => simp [intOf]; omega
          · by_cases hm1 : (n : Int) - p < m
            · have hm2 : ((n - p : Nat) : Int) < m := by omega
              go_wp2_with fail
              refine (rtake_over m hRa hm1).mono ?_
              rintro e wq ⟨rfl, hRq, qq, hqq⟩
              have hcm : wq.cell? ⟨wr.heap.size, 1, none⟩ = some (.int .i64 m) := by rw [hqq]; exact hka
              clear hqq
              clear hvc hva hRa
              have hAt := at_any hRq
              have hLe := left_any hRq
              have HR := hRq
              go_wp2_with fail
              refine hAt.mono ?_
              rintro e w' ⟨rfl, rfl⟩
              go_wp2_with fail
              refine hLe.mono ?_
              rintro e w5 ⟨rfl, q5, rfl⟩
              go_wp2
              go_roundw
              case rel => exact ⟨k + 1, p, by omega, by go_num, by go_num, HR.drew q5⟩
              case measure => simp [intOf]; omega
            · obtain ⟨mn, rfl⟩ := Int.eq_ofNat_of_zero_le (show 0 ≤ m by omega)
              have hmn : p + mn ≤ n := by omega
              have hm2 : ¬ ((n - p : Nat) : Int) < (mn : Int) := by omega
              have hm3 : (mn : Int) ≤ ((cap - p : Nat) : Int) := by omega
              have HMN : Hid (((zs.drop p).take mn).length = mn) := by show _ = _; rw [List.length_take, List.length_drop, HL.out]; omega
              go_wp2_with fail
              refine (rtake_some hRa hmn).mono ?_
              rintro e wb ⟨g, cx, rfl, hg0, hg1', hg2', hgw, hownx, hRb⟩
              have hsa : (wr.alloc (.cells #[.int .i64 what, .int .i64 (mn : Int)] 37)).heap.size = wr.heap.size + 1 := by simp
              rw [hsa] at hg2'
              have hcm : wb.cell? ⟨wr.heap.size, 1, none⟩ = some (.int .i64 (mn : Int)) := by
                rw [← hka]
                exact World.cell?_of_block (hgw.block wr.heap.size (by rw [hsa]; omega) (fun e => by cases e; omega))
              have hkb : wr.heap.size < wb.heap.size := by have := hgw.size; rw [hsa] at this; omega
              have hvb := (View.cut (hv.below (hRb.belowAll hbW0 hgr')) (by rw [HL.out]; exact hcap) p).take mn
              clear hvc hva hRa hgw hka hsa
              go_wp2_with fail
              refine (words_true _ _ mn cx (cap - p) _ wb (View.ofRow hownx HMN.out) hvb HMN.out (by omega)).mono ?_
              rintro e wc ⟨rfl, qc, rfl⟩
              have hownc := own_below hownx (bel_drewN (Below.refl _ wb) qc)
              have hRc := hRb.drew qc
              have hcc : (wb.drewN qc).cell? ⟨wr.heap.size, 1, none⟩ = some (.int .i64 (mn : Int)) := hcm
              have hkc : wr.heap.size < (wb.drewN qc).heap.size := hkb
              clear hownx hRb hcm hkb hvb
              generalize wb.drewN qc = wc at *
              go_wp2_with fail
              refine (spoil_some g mn cx W0.heap.size _ wc hownc HMN.out (by omega)).mono ?_
              rintro e wq ⟨rfl, hsp⟩
              have hRq : Rdr W0 wq gr ga n cw (p + mn) zs := ⟨hRc.rd.far hg0 hg1' hsp, hRc.view, hRc.apart, hRc.len, hRc.le, hRc.room, hRc.small, hRc.within⟩
              have hcq : wq.cell? ⟨wr.heap.size, 1, none⟩ = some (.int .i64 (mn : Int)) := by
                rw [← hcc]
                exact World.cell?_of_block (hsp.block wr.heap.size hkc (fun e => by cases e; omega))
              clear hownc hRc hcc hsp
              have hAt := at_any hRq
              have hLe := left_any hRq
              rw [show ((p + mn : Nat) : Int) = (p : Int) + (mn : Int) by omega] at hAt hLe
              have HR := hRq
              go_wp2_with fail
              refine hAt.mono ?_
              rintro e w' ⟨rfl, rfl⟩
              go_wp2_with fail
              refine hLe.mono ?_
              rintro e w5 ⟨rfl, q5, rfl⟩
              go_wp2
              go_roundw
              case rel => exact ⟨k + 1, p + mn, by omega, by go_num, by go_num, HR.drew q5⟩
              case measure => simp [intOf]; omega
    · go_wp2
      go_ret
      exact ⟨rfl, hbr⟩

end Go.Proofs.Ytmmpejhmmgkfkab
