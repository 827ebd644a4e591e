/-
  Texts laid together in one: WordsByteAt, WordsJoin, CodeEncode, MathT, MathN, WordsTextEnd, WordsText, WordsText2, SlicesClone, Ref01Byte.
-/
import Derived.Test.YtpggcpnjcalfaaaProg
import Derived.Test.YtpggcpnjcalfaaaB01
import Derived.WalkSpells
import Derived.WalkMore
import Derived.BigRegion
import Derived.Deep.RegionWith
import Derived.Deep.DrawnRows
import Derived.Test.YtpggcpnjcalfaaaB09
import Derived.Test.YtpggcpnjcalfaaaB04
import Derived.Test.YtpggcpnjcalfaaaB06
import Derived.Test.YtpggcpnjcalfaaaB07
import Derived.Test.YtpggcpnjcalfaaaB08
import Derived.Test.YtpggcpnjcalfaaaB02
/-
  What byteAt of the words package returns, for every word and every place from 0 to 3.
-/
namespace Go.Proofs.Ytpggcpnjcalfaaa
open Go.RowKit
set_option maxRecDepth 10000

theorem byteAt_any (x p : Int) (w : World) (hx : 0 ≤ x) (hx2 : x < 4294967296) (h0 : 0 ≤ p) (h3 : p < 4) :
    Calls Try.prog 61 #[.int .u32 x, .int .i64 p] w fun e w' => e = .returned (.int .u8 (byt x p.toNat)) ∧ w = w' := by
  rcases (show p = 0 ∨ p = 1 ∨ p = 2 ∨ p = 3 by omega) with rfl | rfl | rfl | rfl
  · go_enter Try.func61, Try.ntmps61
    go_wp2
    go_ret
    exact ⟨ret_int (by simp [byt]), rfl⟩
  · go_enter Try.func61, Try.ntmps61
    go_wp2
    go_ret
    exact ⟨ret_int (by simp [byt]), rfl⟩
  · go_enter Try.func61, Try.ntmps61
    go_wp2
    go_ret
    exact ⟨ret_int (by simp [byt]), rfl⟩
  · go_enter Try.func61, Try.ntmps61
    go_wp2
    go_ret
    exact ⟨ret_int (by simp [byt]; omega), rfl⟩

end Go.Proofs.Ytpggcpnjcalfaaa

/-
  What Join of the words package returns, for every list of words whose bytes take at most 2^47 - 4096: their bytes, in new memory.
-/
namespace Go.Proofs.Ytpggcpnjcalfaaa
open Go.RowKit
set_option maxRecDepth 10000

theorem Join.info_u8 : (Try.prog.info? 5).map (fun i => (i.zero, i.size, i.bytes)) = some (some (.int .u8 0), 1, 1) := by kernel_rfl

set_option maxHeartbeats 400000 in
theorem join_any (a : Option Addr) (n cap : Nat) (zs : List Int) (w : World) (hv : View .u32 w a zs) (hl : zs.length = n) (hn : 4 * n ≤ 140737488351232) (hw : Within 4294967296 zs) :
    Calls Try.prog 39 #[.slice a n cap] w fun e w' => e = .returned (.slice (some ⟨w.heap.size, 0, none⟩) (4 * n) (4 * n)) ∧
      w'.ownsRow w.heap.size 5 1 (.slice (some ⟨w.heap.size, 0, none⟩) (4 * n) (4 * n)) (4 * n) ((joinL zs).map (Value.int .u8)) ∧ Below w.heap.size w w' := by
  obtain ⟨i0, hi, hz0, hz1, hz2⟩ := info_parts Join.info_u8
  have HL : Hid (zs.length = n) := hl
  clear hl
  go_enter Try.func39, Try.ntmps39
  go_wp2_with (at_make; refine wpList_make_own _ rfl _ _ 42 rfl w.heap.size 5 i0 (.int .u8 0) 1 Try.underlying42 hi hz0 hz1 _ _ _ (4 * n) rfl rfl (by omega) (by rw [hz2]; omega) (by unfold maxLen; omega) (Nat.le_refl _) ?_)
  intro w1 hown1 hgrow1
  have hb1 : Below w.heap.size w w1 := (Below.refl _ w).grown hgrow1 (Nat.le_refl _) (by simp)
  go_wp2
  go_loopw [3, 13] (fun v i wr => ∃ k : Nat, k ≤ n ∧ i = .int .i64 k ∧ v = .slice (some ⟨w.heap.size, 0, none⟩) (4 * k) (4 * n) ∧
      wr.ownsRow w.heap.size 5 1 (.slice (some ⟨w.heap.size, 0, none⟩) (4 * k) (4 * n)) (4 * k) ((joinL (zs.take k)).map (Value.int .u8)) ∧ Below w.heap.size w wr)
    (fun _ i _ => n - (intOf i).toNat)
  case atStart => exact ⟨0, Nat.zero_le _, rfl, rfl, hown1, hb1⟩
  case round =>
    obtain ⟨k, hk, rfl, rfl, hown, hnx⟩ := hrel
    by_cases hlt : k < n
    · obtain ⟨b, off, rfl, hbs, hc⟩ := hv k (by rw [HL.out]; exact hlt)
      have hx := hw.at (k := k) (by rw [HL.out]; exact hlt)
      have hJ := joinL_snoc zs k (by rw [HL.out]; exact hlt)
      obtain ⟨x, hxe⟩ : ∃ x, x = nth zs k := ⟨_, rfl⟩
      rw [← hxe] at hc hx hJ
      have HJ : Hid (joinL (zs.take (k + 1)) = joinL (zs.take k) ++ four x) := hJ
      have hcr : wr.cell? ⟨b, off + k, none⟩ = some (.int .u32 x) := (hnx.cell (p := ⟨b, off + k, none⟩) hbs).trans hc
      have hx0 := hx.1
      have hx1 := hx.2
      clear hx hxe hJ hc hw hv hown1 hgrow1 hb1
      go_wp2
      go_loopw [3, 17] (fun v i wq => ∃ p : Nat, p ≤ 4 ∧ i = .int .i64 p ∧ v = .slice (some ⟨w.heap.size, 0, none⟩) (4 * k + p) (4 * n) ∧
          wq.ownsRow w.heap.size 5 1 (.slice (some ⟨w.heap.size, 0, none⟩) (4 * k + p) (4 * n)) (4 * k + p) ((joinL (zs.take k) ++ (four x).take p).map (Value.int .u8)) ∧ Below w.heap.size w wq)
        (fun _ i _ => 4 - (intOf i).toNat)
      case atStart => exact ⟨0, by omega, rfl, rfl, by simpa using hown, hnx⟩
      case round =>
        obtain ⟨p, hp, rfl, rfl, hownp, hnp⟩ := hrel
        clear hcr hown hnx
        by_cases hplt : p < 4
        · go_wp2_with (first | (go_at_call 61; refine (byteAt_any _ _ _ hx0 hx1 (by omega) (by omega)).mono ?_; rintro e w' ⟨rfl, rfl⟩) | (at_builtin; refine wpList_append_fits _ rfl (.tmp 20) (.tmp 24) 42 rfl w.heap.size 5 i0 1 Try.underlying42 hi hz1 w.heap.size (4 * k + p) (4 * n) _ rfl (hownp.alloc _) ⟨wr.heap.size, 0, none⟩ 1 1 [.int .u8 (byt x p)] rfl rfl (cell_one_new _ _ _) (ints_oneCell .u8 [byt x p]) (by omega) ?_; intro w4 hown4 hgrow4))
          go_roundw
          case rel =>
            refine ⟨p + 1, by omega, by go_num, rfl, ?_, ?_⟩
            · rw [four_snoc x p hplt, ← List.append_assoc, List.map_append]; exact hown4
            · exact (hnp.alloc hnp.size _).grown hgrow4 (by have := hnp.size; simp; omega) (fun j hj => by cases hj; exact Nat.le_refl _)
          case measure => simp [intOf]; omega
        · go_wp2
          go_roundw
          case rel =>
            obtain rfl : p = 4 := by omega
            refine ⟨k + 1, by omega, by go_num, rfl, ?_, hnp⟩
            rw [HJ.out]; exact hownp
          case measure => simp [intOf]; omega
    · go_wp2
      go_ret
      obtain rfl : k = n := by omega
      rw [List.take_of_length_le (by rw [HL.out]; exact Nat.le_refl _)] at hown
      exact ⟨rfl, hown, hnx⟩

end Go.Proofs.Ytpggcpnjcalfaaa

/-
  What Shape and Encode of the package code answer, for every module.
-/
namespace Go.Proofs.Ytpggcpnjcalfaaa
open Go.RowKit
set_option linter.unusedVariables false
set_option linter.unusedSimpArgs false
set_option maxRecDepth 10000

/-- A module's bytes. -/
def encW (gen b : Int) (l : List InstT) : List Int := writeTo gen b (rawsL b l) l.length
def encL (gen b : Int) (l : List InstT) : List Int := if (shapeE b l).1 = 0 then joinL (encW gen b l) else []

theorem encW_within {gen b : Int} {l : List InstT} (hg0 : 0 ≤ gen) (hg1 : gen < 4294967296) (hb0 : 0 ≤ b) (hb1 : b < 4294967296) (hok : InstsOk l) : Within 4294967296 (encW gen b l) := by
  have := writeTo_within gen b hg0 hg1 hb0 hb1 (rawsL b l) (rawsL_ok b hok) (fun j hj => by rw [rawsL_len] at hj; rw [nthR_raws b l j hj]; exact rawWs_len _ _)
  rw [rawsL_len] at this
  exact this
theorem encW_len {gen b : Int} {l : List InstT} (h : (shapeE b l).1 = 0) : (encW gen b l).length ≤ 1048576 ∧ 5 ≤ (encW gen b l).length := by
  have h1 := writeTo_len gen b (rawsL b l) l.length (by rw [rawsL_len]; exact Nat.le_refl _)
  have h2 := shape_few h
  have h3 := sizeTo_ge (rawsL b l) l.length (by rw [rawsL_len]; exact Nat.le_refl _)
  unfold encW
  omega

set_option maxHeartbeats 2000000 in
theorem codeShape_any (gen bound : Int) (a : Option Addr) (n cap : Nat) (l : List InstT) (w : World) (hg0 : 0 ≤ gen) (hg1 : gen < 4294967296) (hb0 : 0 ≤ bound) (hb1 : bound < 4294967296) (hv : InstsV w a l) (hok : InstsOk l) (hl : l.length = n) (hn : 40 * n ≤ 140737488351232) :
    Calls Try.prog 19 #[modV gen bound a n cap] w fun e w' => e = .returned (.agg #[.int .i64 (shapeE bound l).1, .int .i64 (shapeE bound l).2]) ∧ Below w.heap.size w w' := by
  have hR := fun wx (hb : Below w.heap.size w wx) => raws_any gen bound a n cap l wx hg0 hg1 hb0 hb1 (hv.below hb) hok hl hn
  generalize (shapeE bound l).1 = e1 at *
  generalize (shapeE bound l).2 = e2 at *
  have HL : Hid (l.length = n) := hl
  unfold modV at *
  clear hv hok hl
  have hB0 : Below w.heap.size w ((w.alloc (.cells #[.int .u32 gen, .int .u32 bound, .slice a n cap] 45)).alloc (.cells #[.int .i64 0, .int .i64 0] 47)) := ((Below.refl _ w).alloc (Nat.le_refl _) _).alloc (by simp) _
  have hC := hR _ hB0
  have kX : ((w.alloc (.cells #[.int .u32 gen, .int .u32 bound, .slice a n cap] 45)).alloc (.cells #[.int .i64 0, .int .i64 0] 47)).heap[w.heap.size + 1]? = some (.cells #[.int .i64 0, .int .i64 0] 47 (0, 0)) := by simpa using alloc_new (w.alloc (.cells #[.int .u32 gen, .int .u32 bound, .slice a n cap] 45)) #[.int .i64 0, .int .i64 0] 47
  have HB0 : Hid _ := hB0
  have HX : Hid _ := kX
  clear hR hB0 kX
  go_enter Try.func19, Try.ntmps19
  go_wp2_with fail
  have hB0 := HB0.out
  have kX := HX.out
  clear HB0 HX
  generalize (w.alloc (.cells #[.int .u32 gen, .int .u32 bound, .slice a n cap] 45)).alloc (.cells #[.int .i64 0, .int .i64 0] 47) = W0 at *
  refine hC.mono ?_
  rintro e w1 ⟨hb1', ax, cx, m, rfl, hm, _, hV1⟩
  have l0 := (Array.getElem?_eq_some_iff.1 kX).1
  have s1 := hb1'.size
  have hb2 : Below W0.heap.size W0 (w1.alloc (.cells #[.int .i64 e1, .int .i64 e2] 47)) := hb1'.alloc s1 _
  have kX2 := (hb2.block _ l0).trans kX
  obtain ⟨d0, d1, _⟩ := cell_of_two (alloc_new w1 #[.int .i64 e1, .int .i64 e2] 47)
  obtain ⟨hcX, hfX⟩ := one_block kX2
  have c0 := hcX 0
  have c1 := hcX 1
  have f0 := hfX 0
  have f1 := hfX 1
  have hBel := hB0.trans (hb2.mono hB0.size)
  have hB3 := two_put2 kX2 (.int .i64 e1) (.int .i64 e2)
  have hBel2 := hBel.trans ((two_below (w1.alloc (.cells #[.int .i64 e1, .int .i64 e2] 47)) (w.heap.size + 1) (.int .i64 e1) (.int .i64 e2)).mono (by omega))
  have HB3 : Hid _ := hB3
  have HBel2 : Hid _ := hBel2
  have hne : w1.heap.size ≠ w.heap.size + 1 := by omega
  clear hC hb1' hb2 kX kX2 hcX hfX hB0 hBel hB3 hBel2 hV1 hm
  go_wp2
  have hB3 := HB3.out
  have hBel := HBel2.out
  clear HB3 HBel2 c0 c1 f0 f1 d0 d1
  generalize ((w1.alloc _).setCell _ _).setCell _ _ = W at hB3 hBel ⊢
  obtain ⟨hd, _⟩ := one_block hB3
  have d0 := hd 0
  have d1 := hd 1
  refine bodyPost_ret (v := .agg #[.int .i64 e1, .int .i64 e2]) ?_ rfl ⟨rfl, hBel⟩
  simp [results, Try.results19, go_sem, d0, d1]

set_option maxHeartbeats 4000000 in
/-- Of a module that is not of good shape. -/
theorem encode_bad (gen bound : Int) (a : Option Addr) (n cap : Nat) (l : List InstT) (w : World) (hg0 : 0 ≤ gen) (hg1 : gen < 4294967296) (hb0 : 0 ≤ bound) (hb1 : bound < 4294967296) (hv : InstsV w a l) (hok : InstsOk l) (hl : l.length = n) (hn : 40 * n ≤ 140737488351232) (he : (shapeE bound l).1 ≠ 0) :
    Calls Try.prog 21 #[modV gen bound a n cap] w fun e w' => e = .returned (.tuple #[.slice none 0 0, .agg #[.int .i64 (shapeE bound l).1, .int .i64 (shapeE bound l).2]]) ∧ Below w.heap.size w w' := by
  have hR := fun wx (hb : Below w.heap.size w wx) => raws_any gen bound a n cap l wx hg0 hg1 hb0 hb1 (hv.below hb) hok hl hn
  have heb : ((shapeE bound l).1 == 0) = false := by simpa using he
  generalize (shapeE bound l).1 = e1 at *
  generalize (shapeE bound l).2 = e2 at *
  have HL : Hid (l.length = n) := hl
  unfold modV at *
  clear hv hok hl he
  have hB0 : Below w.heap.size w ((w.alloc (.cells #[.int .u32 gen, .int .u32 bound, .slice a n cap] 45)).alloc (.cells #[.int .i64 0, .int .i64 0] 47)) := ((Below.refl _ w).alloc (Nat.le_refl _) _).alloc (by simp) _
  have hC := hR _ hB0
  have kX : ((w.alloc (.cells #[.int .u32 gen, .int .u32 bound, .slice a n cap] 45)).alloc (.cells #[.int .i64 0, .int .i64 0] 47)).heap[w.heap.size + 1]? = some (.cells #[.int .i64 0, .int .i64 0] 47 (0, 0)) := by simpa using alloc_new (w.alloc (.cells #[.int .u32 gen, .int .u32 bound, .slice a n cap] 45)) #[.int .i64 0, .int .i64 0] 47
  have HB0 : Hid _ := hB0
  have HX : Hid _ := kX
  clear hR hB0 kX
  go_enter Try.func21, Try.ntmps21
  go_wp2_with fail
  have hB0 := HB0.out
  have kX := HX.out
  clear HB0 HX
  generalize (w.alloc (.cells #[.int .u32 gen, .int .u32 bound, .slice a n cap] 45)).alloc (.cells #[.int .i64 0, .int .i64 0] 47) = W0 at *
  refine hC.mono ?_
  rintro e w1 ⟨hb1', ax, cx, m, rfl, hm, _, hV1⟩
  have l0 := (Array.getElem?_eq_some_iff.1 kX).1
  have s1 := hb1'.size
  have hb2 : Below W0.heap.size W0 (w1.alloc (.cells #[.int .i64 e1, .int .i64 e2] 47)) := hb1'.alloc s1 _
  have kX2 := (hb2.block _ l0).trans kX
  obtain ⟨d0, d1, _⟩ := cell_of_two (alloc_new w1 #[.int .i64 e1, .int .i64 e2] 47)
  obtain ⟨hcX, hfX⟩ := one_block kX2
  have c0 := hcX 0
  have c1 := hcX 1
  have f0 := hfX 0
  have f1 := hfX 1
  have hBel := hB0.trans (hb2.mono hB0.size)
  have hB3 := two_put2 kX2 (.int .i64 e1) (.int .i64 e2)
  have hBel2 := (hBel.trans ((two_below (w1.alloc (.cells #[.int .i64 e1, .int .i64 e2] 47)) (w.heap.size + 1) (.int .i64 e1) (.int .i64 e2)).mono (by omega))).drew
  have HB3 : Hid _ := hB3
  have HBel2 : Hid _ := hBel2
  have hne : w1.heap.size ≠ w.heap.size + 1 := by omega
  clear hC hb1' hb2 kX kX2 hcX hfX hB0 hBel hB3 hBel2 hV1 hm
  go_wp2
  go_region
  go_wp2
  have hB3 : ((((w1.alloc (.cells #[.int .i64 e1, .int .i64 e2] 47)).setCell ⟨w.heap.size + 1, 0, none⟩ (.int .i64 e1)).setCell ⟨w.heap.size + 1, 1, none⟩ (.int .i64 e2)).drew).heap[w.heap.size + 1]? = some (.cells #[.int .i64 e1, .int .i64 e2] 47 (0, 0)) := HB3.out
  have hBel := HBel2.out
  clear HB3 HBel2 c0 c1 f0 f1 d0 d1
  generalize (((w1.alloc _).setCell _ _).setCell _ _).drew = W at hB3 hBel ⊢
  obtain ⟨hd, _⟩ := one_block hB3
  have d0 := hd 0
  have d1 := hd 1
  refine bodyPost_ret (v := .tuple #[.slice none 0 0, .agg #[.int .i64 e1, .int .i64 e2]]) ?_ rfl ⟨rfl, hBel⟩
  simp [results, Try.results21, go_sem, d0, d1]

set_option maxHeartbeats 4000000 in
/-- Of a module of good shape. -/
theorem encode_ok (gen bound : Int) (a : Option Addr) (n cap : Nat) (l : List InstT) (w : World) (hg0 : 0 ≤ gen) (hg1 : gen < 4294967296) (hb0 : 0 ≤ bound) (hb1 : bound < 4294967296) (hv : InstsV w a l) (hok : InstsOk l) (hl : l.length = n) (hn : 40 * n ≤ 140737488351232) (he : shapeE bound l = (0, 0)) :
    Calls Try.prog 21 #[modV gen bound a n cap] w fun e w' => Below w.heap.size w w' ∧ ∃ g m, e = .returned (.tuple #[.slice (some ⟨g, 0, none⟩) m m, .agg #[.int .i64 0, .int .i64 0]]) ∧ (joinL (encW gen bound l)).length = m ∧ w'.ownsRow w.heap.size 5 1 (.slice (some ⟨g, 0, none⟩) m m) m ((joinL (encW gen bound l)).map (Value.int .u8)) := by
  have hR := fun wx (hb : Below w.heap.size w wx) => raws_any gen bound a n cap l wx hg0 hg1 hb0 hb1 (hv.below hb) hok hl hn
  have eR : rawsR bound l = rawsL bound l := by unfold rawsR; rw [he, if_pos rfl]
  have h0 : (shapeE bound l).1 = 0 := by rw [he]
  have eW : writeE bound (rawsL bound l) = (0, 0) := by
    obtain ⟨h1, h2⟩ := shape_bound h0
    unfold writeE
    rw [if_neg (by rintro (h | h)
                   · exact h1 h
                   · exact h2 h), fault_shape h0]
  have eL : writeL gen bound (rawsL bound l) = encW gen bound l := by unfold writeL encW; rw [eW, if_pos rfl, rawsL_len]
  have hfew := shape_few h0
  have hwl := encW_len (gen := gen) h0
  have hww := encW_within (l := l) hg0 hg1 hb0 hb1 hok
  rw [he, eR] at hR
  have hH := fun w => headOf_any gen bound a n cap w
  have hWr := fun ax m cx wx (h1 : RawsV wx ax (rawsL bound l)) (h2 : l.length = m) (h3 : m ≤ cx) => writeC gen bound ax m cx (rawsL bound l) wx hg0 hg1 hb0 hb1 h1 (rawsL_ok bound hok) (by rw [rawsL_len]; exact h2) (by omega) h3
  rw [eW, eL] at hWr
  have hrl := rawsL_len bound l
  have hJ := fun ax m cx wx (h1 : View .u32 wx ax (encW gen bound l)) (h2 : (encW gen bound l).length = m) => join_any ax m cx (encW gen bound l) wx h1 h2 (by omega) hww
  have hjl := joinL_len (encW gen bound l)
  have HJL : Hid _ := hjl
  have HRL : Hid _ := hrl
  have HWL : Hid _ := hwl
  clear he eR h0 eW eL hww hfew hjl hrl hwl
  have HL : Hid (l.length = n) := hl
  clear hv hok hl
  generalize rawsL bound l = rs at *
  generalize encW gen bound l = ws at *
  unfold modV at *
  have hB0 : Below w.heap.size w ((w.alloc (.cells #[.int .u32 gen, .int .u32 bound, .slice a n cap] 45)).alloc (.cells #[.int .i64 0, .int .i64 0] 47)) := ((Below.refl _ w).alloc (Nat.le_refl _) _).alloc (by simp) _
  have hC := hR _ hB0
  have kX : ((w.alloc (.cells #[.int .u32 gen, .int .u32 bound, .slice a n cap] 45)).alloc (.cells #[.int .i64 0, .int .i64 0] 47)).heap[w.heap.size + 1]? = some (.cells #[.int .i64 0, .int .i64 0] 47 (0, 0)) := by simpa using alloc_new (w.alloc (.cells #[.int .u32 gen, .int .u32 bound, .slice a n cap] 45)) #[.int .i64 0, .int .i64 0] 47
  have kM : ((w.alloc (.cells #[.int .u32 gen, .int .u32 bound, .slice a n cap] 45)).alloc (.cells #[.int .i64 0, .int .i64 0] 47)).heap[w.heap.size]? = some (.cells #[.int .u32 gen, .int .u32 bound, .slice a n cap] 45 (0, 0)) := (Below.heap_alloc _ _ _ (by simp)).trans (alloc_new w _ _)
  have HB0 : Hid _ := hB0
  have HX : Hid _ := kX
  have HM : Hid _ := kM
  clear hR hB0 kX kM
  go_enter Try.func21, Try.ntmps21
  go_wp2_with fail
  have hB0 := HB0.out
  have kX := HX.out
  have kM := HM.out
  clear HB0 HX HM
  generalize (w.alloc (.cells #[.int .u32 gen, .int .u32 bound, .slice a n cap] 45)).alloc (.cells #[.int .i64 0, .int .i64 0] 47) = W0 at *
  refine hC.mono ?_
  rintro e w1 ⟨hb1', ax, cx, m, rfl, hm, hmc, hV1⟩
  have l0 := (Array.getElem?_eq_some_iff.1 kX).1
  have s1 := hb1'.size
  have hb2 : Below W0.heap.size W0 (w1.alloc (.cells #[.int .i64 0, .int .i64 0] 47)) := hb1'.alloc s1 _
  have kX2 := (hb2.block _ l0).trans kX
  have kM2 := (hb2.block _ (by omega)).trans kM
  have kS2 := alloc_new w1 #[.int .i64 0, .int .i64 0] 47
  have hV2 := hV1.below ((Below.refl _ w1).alloc (Nat.le_refl _) (.cells #[.int .i64 0, .int .i64 0] 47))
  obtain ⟨d0, d1, _⟩ := cell_of_two kS2
  obtain ⟨hcM, _⟩ := one_block kM2
  have m0 := hcM 0
  have m1 := hcM 1
  have m2 := hcM 2
  have hBel := hB0.trans (hb2.mono hB0.size)
  have sW : w1.heap.size < (w1.alloc (.cells #[.int .i64 0, .int .i64 0] 47)).heap.size := by simp
  have HV2 : Hid (RawsV _ ax rs) := hV2
  have HX2 : Hid _ := kX2
  have HS2 : Hid _ := kS2
  have HBel : Hid _ := hBel
  have HMM : Hid _ := hm
  have HMC : Hid _ := hmc
  clear hC hb1' hb2 kX kX2 kM kM2 hcM hB0 hV1 hV2 kS2 hBel hm hmc
  go_wp2_with fail
  have hV2 := HV2.out
  have kX2 := HX2.out
  have kS2 := HS2.out
  have hBel := HBel.out
  clear HV2 HX2 HS2 HBel d0 d1 m0 m1 m2
  generalize w1.alloc (.cells #[.int .i64 0, .int .i64 0] 47) = W2 at *
  refine (hH _).mono ?_
  rintro e w3 ⟨rfl, hb3⟩
  have s3 := hb3.size
  have hV3 := hV2.below hb3
  have kX3 := (hb3.block _ (by omega)).trans kX2
  have kS3 := (hb3.block _ sW).trans kS2
  have hBel3 := hBel.trans (hb3.mono hBel.size)
  have hC2 := hWr ax m cx w3 hV3 (by rw [← HRL.out, HMM.out]) HMC.out
  clear hH hWr hb3 hV2 kX2 kS2 hBel hV3
  go_wp2_with fail
  refine hC2.mono ?_
  rintro e w4 ⟨hb4, ay, cy, m4, rfl, hm4, hown4⟩
  have s4 := hb4.size
  have kX4 := (hb4.block _ (by omega)).trans kX3
  have kS4 := (hb4.block _ (by omega)).trans kS3
  have hBel4 := hBel3.trans (hb4.mono hBel3.size)
  obtain ⟨hcS, hfS⟩ := one_block kS4
  have c0 := hcS 0
  have c1 := hcS 1
  have f0 := hfS 0
  have f1 := hfS 1
  have kS5 := two_put2 kS4 (.int .i64 0) (.int .i64 0)
  have kX5 : ((w4.setCell ⟨w1.heap.size, 0, none⟩ (.int .i64 0)).setCell ⟨w1.heap.size, 1, none⟩ (.int .i64 0)).heap[w.heap.size + 1]? = some (.cells #[.int .i64 0, .int .i64 0] 47 (0, 0)) := (Below.heap_setCell _ _ _ _ (by simp; omega)).trans ((Below.heap_setCell _ _ _ _ (by simp; omega)).trans kX4)
  have hBel5 := hBel4.trans ((two_below w4 w1.heap.size (.int .i64 0) (.int .i64 0)).mono (by omega))
  have hown5 := ownFar (ownFar hown4 (show w1.heap.size < w3.heap.size by omega) 0 (.int .i64 0)) (show w1.heap.size < w3.heap.size by omega) 1 (.int .i64 0)
  have hV5 := View.ofOwn hown5 hm4
  have HS5 : Hid _ := kS5
  have HX5 : Hid _ := kX5
  have HBel5 : Hid _ := hBel5
  have HV5 : Hid (View .u32 _ ay ws) := hV5
  have HM4 : Hid _ := hm4
  clear hC2 hb4 hBel3 hBel4 kX3 kX4 kS3 kS4 hcS hfS hown4 hown5 hV5 kS5 kX5 hBel5 hm4
  have hz : ((0 : Nat) : Int) = 0 := rfl
  go_wp2_with fail
  have kS5 := HS5.out
  have kX5 := HX5.out
  have hBel5 := HBel5.out
  have hV5 := HV5.out
  clear HS5 HX5 HBel5 HV5 c0 c1 f0 f1
  generalize (w4.setCell ⟨w1.heap.size, 0, none⟩ (.int .i64 0)).setCell ⟨w1.heap.size, 1, none⟩ (.int .i64 0) = X at *
  have lX := (Array.getElem?_eq_some_iff.1 kX5).1
  have lS := (Array.getElem?_eq_some_iff.1 kS5).1
  have hJ2 := fun wx (hb : Below X.heap.size X wx) => hJ ay m4 cy wx (hV5.below hb) HM4.out
  obtain ⟨y0, y1, _⟩ := cell_of_two kS5
  have hBd : Below X.heap.size X X.drew := below_drew X
  have HX5 : Hid _ := kX5
  have HBel5 : Hid _ := hBel5
  clear hJ hV5 kX5 hBel5
  go_region_with (go_at_call 39; refine (hJ2 _ (by first | exact Below.refl _ _ | exact (Below.refl _ _).drew)).mono ?_; rintro e w5 ⟨rfl, hown5, hb5⟩; obtain ⟨z0, z1, _⟩ := cell_of_two ((hb5.block _ (by exact lS)).trans kS5); obtain ⟨hcX, hfX⟩ := one_block ((hb5.block _ (by exact lX)).trans HX5.out); have x0 := hcX 0; have x1 := hcX 1; have g0 := hfX 0; have g1 := hfX 1)
  all_goals
    have hB3 := two_put2 ((hb5.block _ (by exact lX)).trans HX5.out) (.int .i64 0) (.int .i64 0)
    have hBw := HBel5.out.trans ((hBd.trans hb5).mono HBel5.out.size)
    have hBel := hBw.trans ((two_below w5 (w.heap.size + 1) (.int .i64 0) (.int .i64 0)).mono (by omega))
    have hO3 := own_lo (ownFar (ownFar hown5 (show w.heap.size + 1 < X.drew.heap.size from lX) 0 (.int .i64 0)) (show w.heap.size + 1 < X.drew.heap.size from lX) 1 (.int .i64 0)) (show w.heap.size ≤ X.drew.heap.size from HBel5.out.size)
    have HB3 : Hid _ := hB3
    have HBE : Hid _ := hBel
    have HO3 : Hid _ := hO3
    clear hB3 hBw hBel hO3 hown5 hb5 y0 y1 z0 z1 x0 x1 g0 g1 hcX hfX kS5 HX5 HBel5 hJ2 hBd
    go_wp2
    have hB3 := HB3.out
    have hBel := HBE.out
    have hO3 := HO3.out
    generalize (w5.setCell ⟨w.heap.size + 1, 0, none⟩ (.int .i64 0)).setCell ⟨w.heap.size + 1, 1, none⟩ (.int .i64 0) = Y at hB3 hBel hO3 ⊢
    obtain ⟨hd, _⟩ := one_block hB3
    have d0 := hd 0
    have d1 := hd 1
    refine bodyPost_ret (v := .tuple #[.slice (some ⟨X.heap.size, 0, none⟩) (4 * m4) (4 * m4), .agg #[.int .i64 0, .int .i64 0]]) ?_ rfl ⟨hBel, X.heap.size, 4 * m4, rfl, by rw [HJL.out, HM4.out], hO3⟩
    simp [results, Try.results21, go_sem, d0, d1]

/-- Encode, of every module. -/
theorem encode_any (gen bound : Int) (a : Option Addr) (n cap : Nat) (l : List InstT) (w : World) (hg0 : 0 ≤ gen) (hg1 : gen < 4294967296) (hb0 : 0 ≤ bound) (hb1 : bound < 4294967296) (hv : InstsV w a l) (hok : InstsOk l) (hl : l.length = n) (hn : 40 * n ≤ 140737488351232) :
    Calls Try.prog 21 #[modV gen bound a n cap] w fun e w' => Below w.heap.size w w' ∧ ∃ ax m, e = .returned (.tuple #[.slice ax m m, .agg #[.int .i64 (shapeE bound l).1, .int .i64 (shapeE bound l).2]]) ∧ (encL gen bound l).length = m ∧ w'.ownsRow w.heap.size 5 1 (.slice ax m m) m ((encL gen bound l).map (Value.int .u8)) := by
  rcases shapeE_any bound l with h | h
  · refine (encode_ok gen bound a n cap l w hg0 hg1 hb0 hb1 hv hok hl hn h).mono ?_
    rintro e w' ⟨hb, g, m, rfl, hm, hown⟩
    have e1 : encL gen bound l = joinL (encW gen bound l) := by unfold encL; rw [h, if_pos rfl]
    rw [h, e1]
    exact ⟨hb, _, m, rfl, hm, hown⟩
  · refine (encode_bad gen bound a n cap l w hg0 hg1 hb0 hb1 hv hok hl hn h).mono ?_
    rintro e w' ⟨rfl, hb⟩
    have e1 : encL gen bound l = [] := by unfold encL; rw [if_neg h]
    rw [e1]
    exact ⟨hb, none, 0, rfl, rfl, World.ownsRow_nil _ _ _ _⟩

end Go.Proofs.Ytpggcpnjcalfaaa

/-
  The text at the front of words, as a function of the words.
-/
namespace Go.Proofs.Ytpggcpnjcalfaaa
open Go.RowKit

/-- The place of the first zero; the length where there is none. -/
def zeroAt (js : List Int) : Nat := js.findIdx (· == 0)

theorem nth_lt (js : List Int) (k : Nat) (h : k < js.length) : nth js k = js[k] := by simp [nth, List.getD, h]

theorem zeroAt_before (js : List Int) (i : Nat) (h : i < zeroAt js) (hi : i < js.length) : nth js i ≠ 0 := by
  rw [nth_lt _ _ hi]
  have := List.not_of_lt_findIdx (p := (· == 0)) (xs := js) h
  simpa using this

theorem zeroAt_at (js : List Int) (h : zeroAt js < js.length) : nth js (zeroAt js) = 0 := by
  rw [nth_lt _ _ h]
  have := List.findIdx_getElem (p := (· == 0)) (xs := js) (w := h)
  exact eq_of_beq this

/-- Is a byte behind the zero, in its word, not zero? -/
def padBad (js : List Int) : Bool := ((js.drop (zeroAt js + 1)).take (3 - zeroAt js % 4)).any (· != 0)

/-- The text at the front of words, how many words it takes, and its error. -/
def textI (zs : List Int) : ByteArray × Int × Int :=
  if (joinL zs).length ≤ zeroAt (joinL zs) then (⟨#[]⟩, 0, 11)
  else if padBad (joinL zs) then (⟨#[]⟩, 0, 12)
  else (strOfNums ((joinL zs).take (zeroAt (joinL zs))), ((zeroAt (joinL zs) / 4 : Nat) : Int) + 1, 0)

theorem padBad_iff {js : List Int} {L P : Nat} (hz : zeroAt js = 4 * L + P) (hP : P < 4) (hl : 4 * L + 4 ≤ js.length) : padBad js = true ↔ ∃ q, P < q ∧ q < 4 ∧ nth js (4 * L + q) ≠ 0 := by
  unfold padBad
  rw [List.any_eq_true, hz, show (4 * L + P) % 4 = P by omega]
  constructor
  · rintro ⟨x, hx, hne⟩
    obtain ⟨k, hk, rfl⟩ := List.mem_iff_getElem.1 hx
    rw [List.length_take, List.length_drop] at hk
    rw [List.getElem_take, List.getElem_drop] at hne
    refine ⟨P + 1 + k, by omega, by omega, ?_⟩
    rw [nth_lt _ _ (by omega)]
    have e : 4 * L + (P + 1 + k) = 4 * L + P + 1 + k := by omega
    simp only [e]
    simpa using hne
  · rintro ⟨q, h1, h2, h3⟩
    refine ⟨nth js (4 * L + q), ?_, by simpa using h3⟩
    rw [nth_lt _ _ (by omega)]
    refine List.mem_iff_getElem.2 ⟨q - P - 1, ?_, ?_⟩
    · rw [List.length_take, List.length_drop]; omega
    · rw [List.getElem_take, List.getElem_drop]
      congr 1; omega

theorem textI_some {zs : List Int} (h : (textI zs).2.2 = 0) : zeroAt (joinL zs) < (joinL zs).length ∧ padBad (joinL zs) = false ∧ textI zs = (strOfNums ((joinL zs).take (zeroAt (joinL zs))), ((zeroAt (joinL zs) / 4 : Nat) : Int) + 1, 0) := by
  unfold textI at h ⊢
  by_cases h1 : (joinL zs).length ≤ zeroAt (joinL zs)
  · rw [if_pos h1] at h; cases h
  · rw [if_neg h1] at h ⊢
    by_cases h2 : padBad (joinL zs) = true
    · rw [if_pos h2] at h; cases h
    · rw [if_neg h2]
      exact ⟨by omega, by simpa using h2, rfl⟩
theorem textI_range (zs : List Int) : 0 ≤ (textI zs).2.1 ∧ (textI zs).2.1 ≤ zs.length ∧ ((textI zs).2.2 = 0 → 1 ≤ (textI zs).2.1) ∧ ((textI zs).2.2 ≠ 0 → (textI zs).1 = ⟨#[]⟩ ∧ (textI zs).2.1 = 0) ∧ (textI zs).1.size ≤ 4 * zs.length := by
  have hl := joinL_len zs
  by_cases h : (textI zs).2.2 = 0
  · obtain ⟨h1, h2, h3⟩ := textI_some h
    rw [h3]
    refine ⟨by simp; omega, by simp; omega, fun _ => by simp; omega, fun h => absurd rfl h, ?_⟩
    simp only
    rw [strOfNums_size, List.length_take]; omega
  · have : textI zs = (⟨#[]⟩, 0, 11) ∨ textI zs = (⟨#[]⟩, 0, 12) := by
      unfold textI at h ⊢
      by_cases h1 : (joinL zs).length ≤ zeroAt (joinL zs)
      · rw [if_pos h1]; exact .inl rfl
      · rw [if_neg h1] at h ⊢
        by_cases h2 : padBad (joinL zs) = true
        · rw [if_pos h2]; exact .inr rfl
        · rw [if_neg h2] at h; exact absurd rfl h
    rcases this with e | e <;> (rw [e]; exact ⟨by simp, by simp, fun h => by simp at h, fun _ => ⟨rfl, rfl⟩, by simp [ByteArray.size]⟩)

end Go.Proofs.Ytpggcpnjcalfaaa

/-
  The instruction that words say, as a function of the words.
-/
namespace Go.Proofs.Ytpggcpnjcalfaaa
open Go.RowKit
set_option linter.unusedVariables false
set_option linter.unusedSimpArgs false

/-- The argument at the front of words, how many these are, and its error. -/
def argI (c : Int) (zs : List Int) (b : Int) : ArgT × Int × Int :=
  if c = 0 ∨ zs.length = 0 then (noArg, 0, 42)
  else if kindI c = 3 then ((3, 0, (textI zs).1), (textI zs).2.1, (textI zs).2.2)
  else if kindI c = 1 ∧ noneB (nth zs 0) b = true then (noArg, 0, 43)
  else if kindI c = 4 ∧ enumB c (nth zs 0) = false then (noArg, 0, 31)
  else ((kindI c, nth zs 0, ⟨#[]⟩), 1, 0)

/-- The arguments that words say, behind those that there are; the error. -/
def argsI (f : Frm) (b : Int) : Nat → List Int → List ArgT → List ArgT × Int
  | 0, _, _ => ([], 42)
  | k + 1, zs, acc =>
    if zs.length = 0 then (if wholeN f acc.length = true then (acc, 0) else ([], 42))
    else if (argI (letterI f acc.length) zs b).2.2 ≠ 0 then ([], (argI (letterI f acc.length) zs b).2.2)
    else argsI f b k (zs.drop (argI (letterI f acc.length) zs b).2.1.toNat) (acc ++ [(argI (letterI f acc.length) zs b).1])

/-- The result's id. -/
def headRes (re : Bool) (zs : List Int) (b : Int) (p : Nat) : Int × Int := if re then (if zs.length ≤ p then (0, 41) else (nth zs p, if noneB (nth zs p) b then 43 else 0)) else (0, 0)
/-- The type's id. -/
def headTy (ty : Bool) (zs : List Int) (b : Int) : Int × Int := if ty then (if zs.length ≤ 0 then (0, 40) else (nth zs 0, if noneB (nth zs 0) b then 43 else 0)) else (0, 0)

/-- The instruction that words say, its form being f; the error. -/
def instF (f : Frm) (op : Int) (zs : List Int) (b : Int) : InstT × Int :=
  if (headTy f.2.1 zs b).2 ≠ 0 then (noInst, (headTy f.2.1 zs b).2)
  else if (headRes f.2.2.1 zs b f.2.1.toNat).2 ≠ 0 then (noInst, (headRes f.2.2.1 zs b f.2.1.toNat).2)
  else if (argsI f b (zs.length + 1) (zs.drop (f.2.1.toNat + f.2.2.1.toNat)) []).2 ≠ 0 then (noInst, (argsI f b (zs.length + 1) (zs.drop (f.2.1.toNat + f.2.2.1.toNat)) []).2)
  else ((op, (headTy f.2.1 zs b).1, (headRes f.2.2.1 zs b f.2.1.toNat).1, (argsI f b (zs.length + 1) (zs.drop (f.2.1.toNat + f.2.2.1.toNat)) []).1), 0)
/-- What Inst answers. -/
def instI (op : Int) (zs : List Int) (b : Int) : InstT × Int :=
  if 65535 ≤ zs.length then (noInst, 25) else if (lookF refT op).2 = false then (noInst, 30) else instF (lookF refT op).1 op zs b

theorem kindI_range (c : Int) : kindI c = 0 ∨ kindI c = 1 ∨ kindI c = 2 ∨ kindI c = 3 ∨ kindI c = 4 := by
  unfold kindI
  split
  · exact .inr (.inl rfl)
  · split
    · exact .inr (.inr (.inl rfl))
    · split
      · exact .inr (.inr (.inr (.inl rfl)))
      · split
        · exact .inr (.inr (.inr (.inr rfl)))
        · exact .inl rfl

/-- Each letter of a form has a kind. -/
def goodL (s : ByteArray) : Bool := s.data.toList.all fun x => kindI (x.toNat : Int) != 0
theorem refT_goodL : refT.all (fun p => goodL p.2.2.2.2.1 && goodL p.2.2.2.2.2.1) = true := by decide +kernel
theorem sgn_good {s : ByteArray} (h : goodL s = true) {k : Nat} (hk : k < s.size) : kindI (sgn s k) ≠ 0 := by
  have hl : k < s.data.toList.length := by rw [size_list]; exact hk
  have h1 := (List.all_eq_true.1 h) (s.data.toList[k]) (List.getElem_mem hl)
  unfold sgn
  rw [List.getD, List.getElem?_eq_getElem hl]
  simpa using h1
theorem letter_kind (n : Int) (k : Nat) (h : letterI (lookF refT n).1 (k : Int) ≠ 0) : kindI (letterI (lookF refT n).1 (k : Int)) ≠ 0 := by
  have hg : goodL (lookF refT n).1.2.2.2.1 = true ∧ goodL (lookF refT n).1.2.2.2.2.1 = true := by
    by_cases h : (lookF refT n).2 = true
    · have := (List.all_eq_true.1 refT_goodL) _ (lookF_true h)
      simpa using this
    · rw [(lookF_false (by simpa using h)).1]; exact ⟨rfl, rfl⟩
  generalize (lookF refT n).1 = f at *
  unfold letterI at h ⊢
  rw [if_neg (by omega)] at h ⊢
  by_cases h1 : (k : Int) < f.2.2.2.1.size
  · rw [if_pos h1] at h ⊢
    exact sgn_good hg.1 (by omega)
  · rw [if_neg h1] at h ⊢
    split at h
    · rename_i hm
      rw [if_pos hm]
      refine sgn_good hg.2 ?_
      unfold mayB at hm
      by_cases h0 : f.2.2.2.2.1.size = 0
      · rw [if_pos h0] at hm; cases hm
      · have := Int.emod_lt_of_pos ((k : Int) - f.2.2.2.1.size) (show (0 : Int) < f.2.2.2.2.1.size by omega)
        have := Int.emod_nonneg ((k : Int) - f.2.2.2.1.size) (show (f.2.2.2.2.1.size : Int) ≠ 0 by omega)
        omega
    · exact absurd rfl h

end Go.Proofs.Ytpggcpnjcalfaaa

/-
  What textEnd of the words package returns: where the first byte 0 lies, or that there is none.
-/
namespace Go.Proofs.Ytpggcpnjcalfaaa
open Go.RowKit
set_option maxRecDepth 10000

set_option maxHeartbeats 1000000 in
theorem textEnd_none (a : Option Addr) (n cap : Nat) (zs : List Int) (w : World) (ha : View .u32 w a zs) (hl : zs.length = n) (hw : Within 4294967296 zs) (hn : 4 * n ≤ 281474976710656) (h : ∀ i, i < 4 * n → nth (joinL zs) i ≠ 0) :
    Calls Try.prog 97 #[.slice a n cap] w fun e w' => e = .returned (.tuple #[.int .i64 0, .int .i64 0, .bool false]) ∧ w = w' := by
  have HL : Hid (zs.length = n) := hl
  clear hl
  have HB : Hid (∀ k p : Nat, k < n → p < 4 → byt (nth zs k) p ≠ 0) := fun k p hk hp => by
    have := h (4 * k + p) (by omega)
    rw [joinL_getD _ _ (by rw [HL.out]; omega), show (4 * k + p) / 4 = k by omega, show (4 * k + p) % 4 = p by omega] at this
    exact this
  clear h
  go_enter Try.func97, Try.ntmps97
  go_wp2
  go_step3
  go_wp2
  go_step3
  go_wp2
  go_loop [2, 3, 4, 10] (fun r s f i => ∃ k : Nat, k ≤ n ∧ i = .int .i64 k ∧ r = .int .i64 0 ∧ s = .int .i64 0 ∧ f = .bool false) (fun _ _ _ i => n - (intOf i).toNat)
  case atStart => exact ⟨0, Nat.zero_le _, rfl, rfl, rfl, rfl⟩
  case round =>
    obtain ⟨k, hk, rfl, rfl, rfl, rfl⟩ := hrel
    by_cases hlt : k < n
    · obtain ⟨b, off, rfl, _, hc⟩ := ha k (by rw [HL.out]; exact hlt)
      have hx := hw.at (k := k) (by rw [HL.out]; exact hlt)
      have HX : Hid (∀ p : Nat, p < 4 → byt (nth zs k) p ≠ 0) := fun p hp => HB.out k p hlt hp
      generalize nth zs k = x at hc hx HX
      have hx0 := hx.1
      have hx1 := hx.2
      clear hx ha
      go_wp2
      go_loop [2, 3, 4, 15] (fun r s f i => ∃ p : Nat, p ≤ 4 ∧ i = .int .i64 p ∧ r = .int .i64 0 ∧ s = .int .i64 0 ∧ f = .bool false) (fun _ _ _ i => 4 - (intOf i).toNat)
      case atStart => exact ⟨0, Nat.zero_le _, rfl, rfl, rfl, rfl⟩
      case round =>
        obtain ⟨p, hp, rfl, rfl, rfl, rfl⟩ := hrel
        by_cases hplt : p < 4
        · have hne : (byt x p == 0) = false := by simp; exact HX.out p hplt
          have hA := fun wx => byteAt_any x (p : Int) wx hx0 hx1 (by omega) (by omega)
          rw [Int.toNat_natCast] at hA
          generalize byt x p = y at hne hA
          go_wp2_with (go_at_call 61; refine (hA _).mono ?_; rintro e w' ⟨rfl, rfl⟩)
          go_round
          case rel => exact ⟨p + 1, by omega, by go_num, rfl, rfl, rfl⟩
          case measure => simp [intOf]; omega
        · go_wp2
          go_round
          case rel => exact ⟨k + 1, by omega, by go_num, rfl, rfl, rfl⟩
          case measure => simp [intOf]; omega
    · go_wp2
      try rw [Exit.noGoto_ret]
      go_ret3
      exact ⟨rfl, rfl⟩

set_option maxHeartbeats 1000000 in
theorem textEnd_at (a : Option Addr) (n cap : Nat) (zs : List Int) (w : World) (L P : Nat) (ha : View .u32 w a zs) (hl : zs.length = n) (hw : Within 4294967296 zs) (hn : 4 * n ≤ 281474976710656)
    (hL : L < n) (hP : P < 4) (h : ∀ i, i < 4 * L + P → nth (joinL zs) i ≠ 0) (h0 : nth (joinL zs) (4 * L + P) = 0) :
    Calls Try.prog 97 #[.slice a n cap] w fun e w' => e = .returned (.tuple #[.int .i64 L, .int .i64 P, .bool true]) ∧ w = w' := by
  have HL : Hid (zs.length = n) := hl
  clear hl
  have HB : Hid (∀ k p : Nat, 4 * k + p < 4 * L + P → p < 4 → byt (nth zs k) p ≠ 0) := fun k p hk hp => by
    have := h (4 * k + p) hk
    rw [joinL_getD _ _ (by rw [HL.out]; omega), show (4 * k + p) / 4 = k by omega, show (4 * k + p) % 4 = p by omega] at this
    exact this
  have H0 : Hid (byt (nth zs L) P = 0) := by
    rw [joinL_getD _ _ (by rw [HL.out]; omega), show (4 * L + P) / 4 = L by omega, show (4 * L + P) % 4 = P by omega] at h0
    exact h0
  clear h h0
  go_enter Try.func97, Try.ntmps97
  go_wp2
  go_step3
  go_wp2
  go_step3
  go_wp2
  go_loop [2, 3, 4, 10] (fun r s f i => ∃ k : Nat, k ≤ L ∧ i = .int .i64 k ∧ r = .int .i64 0 ∧ s = .int .i64 0 ∧ f = .bool false) (fun _ _ _ i => n - (intOf i).toNat)
  case atStart => exact ⟨0, Nat.zero_le _, rfl, rfl, rfl, rfl⟩
  case round =>
    obtain ⟨k, hk, rfl, rfl, rfl, rfl⟩ := hrel
    have hlt : k < n := by omega
    obtain ⟨b, off, rfl, _, hc⟩ := ha k (by rw [HL.out]; exact hlt)
    have hx := hw.at (k := k) (by rw [HL.out]; exact hlt)
    have HX : Hid (∀ p : Nat, 4 * k + p < 4 * L + P → p < 4 → byt (nth zs k) p ≠ 0) := fun p hp h4 => HB.out k p hp h4
    have HX0 : Hid (k = L → byt (nth zs k) P = 0) := fun e => by rw [e]; exact H0.out
    generalize nth zs k = x at hc hx HX HX0
    have hx0 := hx.1
    have hx1 := hx.2
    clear hx ha
    go_wp2
    go_loop [2, 3, 4, 15] (fun r s f i => ∃ p : Nat, p ≤ 4 ∧ 4 * k + p ≤ 4 * L + P ∧ i = .int .i64 p ∧ r = .int .i64 0 ∧ s = .int .i64 0 ∧ f = .bool false) (fun _ _ _ i => 4 - (intOf i).toNat)
    case atStart => exact ⟨0, Nat.zero_le _, by omega, rfl, rfl, rfl, rfl⟩
    case round =>
      obtain ⟨p, hp, hpN, rfl, rfl, rfl, rfl⟩ := hrel
      by_cases hplt : p < 4
      · by_cases hlast : 4 * k + p < 4 * L + P
        · have hne : (byt x p == 0) = false := by simp; exact HX.out p hlast hplt
          have hA := fun wx => byteAt_any x (p : Int) wx hx0 hx1 (by omega) (by omega)
          rw [Int.toNat_natCast] at hA
          generalize byt x p = y at hne hA
          go_wp2_with (go_at_call 61; refine (hA _).mono ?_; rintro e w' ⟨rfl, rfl⟩)
          go_round
          case rel => exact ⟨p + 1, by omega, by omega, by go_num, rfl, rfl, rfl⟩
          case measure => simp [intOf]; omega
        · obtain rfl : k = L := by omega
          obtain rfl : p = P := by omega
          have hA := fun wx => byteAt_any x (p : Int) wx hx0 hx1 (by omega) (by omega)
          rw [Int.toNat_natCast, HX0.out rfl] at hA
          go_wp2_with (go_at_call 61; refine (hA _).mono ?_; rintro e w' ⟨rfl, rfl⟩)
          try rw [Exit.noGoto_ret]
          go_ret3
          exact ⟨rfl, rfl⟩
      · go_wp2
        go_round
        case rel => exact ⟨k + 1, by omega, by go_num, rfl, rfl, rfl⟩
        case measure => simp [intOf]; omega

end Go.Proofs.Ytpggcpnjcalfaaa

/-
  What Text of the words package returns, for every list of words: its error, or the text at their front and how many words it takes.
-/
namespace Go.Proofs.Ytpggcpnjcalfaaa
open Go.RowKit
set_option maxRecDepth 10000

theorem text_none (a : Option Addr) (n cap : Nat) (zs : List Int) (w : World) (ha : View .u32 w a zs) (hl : zs.length = n) (hw : Within 4294967296 zs) (hn : 4 * n ≤ 281474976710656) (h : ∀ i, i < 4 * n → nth (joinL zs) i ≠ 0) :
    Calls Try.prog 90 #[.slice a n cap] w fun e w' => e = .returned (.tuple #[.string ⟨#[]⟩, .int .i64 0, .int .i64 11]) ∧ w = w' := by
  have hT := textEnd_none a n cap zs w ha hl hw hn h
  clear ha hl hw h
  go_enter Try.func90, Try.ntmps90
  go_wp2_with fail
  refine hT.mono ?_
  rintro e w' ⟨rfl, rfl⟩
  go_wp2
  go_ret3
  exact ⟨rfl, rfl⟩

set_option maxHeartbeats 1000000 in
theorem text_pad (a : Option Addr) (n cap : Nat) (zs : List Int) (w : World) (L P : Nat) (ha : View .u32 w a zs) (hl : zs.length = n) (hw : Within 4294967296 zs) (hn : 4 * n ≤ 281474976710656)
    (hL : L < n) (hP : P < 4) (h : ∀ i, i < 4 * L + P → nth (joinL zs) i ≠ 0) (h0 : nth (joinL zs) (4 * L + P) = 0) (hpad : nth zs L / 256 ^ P ≠ 0) :
    Calls Try.prog 90 #[.slice a n cap] w fun e w' => e = .returned (.tuple #[.string ⟨#[]⟩, .int .i64 0, .int .i64 12]) ∧ w = w' := by
  have hT := textEnd_at a n cap zs w L P ha hl hw hn hL hP h h0
  obtain ⟨b, off, rfl, _, hc⟩ := ha L (by omega)
  have hx := hw.at (k := L) (by omega)
  clear ha hl hw h h0
  generalize nth zs L = x at hc hx hpad
  have hx0 := hx.1
  have hx1 := hx.2
  have hLi : (L : Int) < (n : Int) := by omega
  rcases (show P = 0 ∨ P = 1 ∨ P = 2 ∨ P = 3 by omega) with rfl | rfl | rfl | rfl
  · have hne : (x == 0) = false := by simpa using hpad
    clear hx hpad
    go_enter Try.func90, Try.ntmps90
    go_wp2_with fail
    refine hT.mono ?_
    rintro e w' ⟨rfl, rfl⟩
    go_wp2
    go_ret3
    exact ⟨rfl, rfl⟩
  · have hne : (x / 256 == 0) = false := by simpa using hpad
    clear hx hpad
    go_enter Try.func90, Try.ntmps90
    go_wp2_with fail
    refine hT.mono ?_
    rintro e w' ⟨rfl, rfl⟩
    go_wp2
    go_ret3
    exact ⟨rfl, rfl⟩
  · have hne : (x / 65536 == 0) = false := by simpa using hpad
    clear hx hpad
    go_enter Try.func90, Try.ntmps90
    go_wp2_with fail
    refine hT.mono ?_
    rintro e w' ⟨rfl, rfl⟩
    go_wp2
    go_ret3
    exact ⟨rfl, rfl⟩
  · have hne : (x / 16777216 == 0) = false := by simpa using hpad
    clear hx hpad
    go_enter Try.func90, Try.ntmps90
    go_wp2_with fail
    refine hT.mono ?_
    rintro e w' ⟨rfl, rfl⟩
    go_wp2
    go_ret3
    exact ⟨rfl, rfl⟩

set_option maxHeartbeats 1000000 in
theorem text_ok (a : Option Addr) (n cap : Nat) (zs : List Int) (w : World) (L P : Nat) (ha : View .u32 w a zs) (hl : zs.length = n) (hw : Within 4294967296 zs) (hn : 4 * n ≤ 281474976710656) (hLb : 4 * (L + 1) ≤ 140737488351232) (hcap : n ≤ cap)
    (hL : L < n) (hP : P < 4) (h : ∀ i, i < 4 * L + P → nth (joinL zs) i ≠ 0) (h0 : nth (joinL zs) (4 * L + P) = 0) (hpad : nth zs L / 256 ^ P = 0) :
    Calls Try.prog 90 #[.slice a n cap] w fun e w' => e = .returned (.tuple #[.string (strOfNums ((joinL zs).take (4 * L + P))), .int .i64 ((L : Int) + 1), .int .i64 0]) ∧ Below w.heap.size w w' := by
  have hT := textEnd_at a n cap zs w L P ha hl hw hn hL hP h h0
  have hJ := join_any a (L + 1) cap (zs.take (L + 1)) w (ha.take _) (by rw [List.length_take]; omega) hLb (within_of_take hw)
  obtain ⟨b, off, rfl, _, hc⟩ := ha L (by omega)
  have hx := hw.at (k := L) (by omega)
  have e1 : joinL (zs.take (L + 1)) = (joinL zs).take (4 * (L + 1)) := joinL_take zs (L + 1)
  have hlen : (joinL zs).length = 4 * n := by rw [joinL_len, hl]
  rw [e1] at hJ
  clear ha hl hw h h0 e1
  generalize nth zs L = x at hc hx hpad
  generalize joinL zs = js at *
  have hx0 := hx.1
  have hx1 := hx.2
  have hLi : (L : Int) < (n : Int) := by omega
  have HJL : Hid (js.length = 4 * n) := hlen
  have HC : Hid (∀ (w' : World), w'.ownsRow w.heap.size 5 1 (.slice (some ⟨w.heap.size, 0, none⟩) (4 * (L + 1)) (4 * (L + 1))) (4 * (L + 1)) ((js.take (4 * (L + 1))).map (Value.int .u8)) →
      (convert 42 9 (.slice (some ⟨w.heap.size, 0, none⟩) (4 * L + P) (4 * (L + 1)))).run Try.prog w' = .ok (.string (strOfNums (js.take (4 * L + P)))) w') := fun w' hown => by
    refine run_convert_bytes_arg w' _ _ Try.underlying42 Try.underlying5 w.heap.size 0 (4 * L + P) (4 * (L + 1)) (js.take (4 * L + P)) (by rw [List.length_take, HJL.out]; omega) (fun i hi => ?_) _ Try.underlying9
    obtain ⟨b', off', e, _, hcell⟩ := View.ofRow hown (by rw [List.length_take, HJL.out]; omega) i (by rw [List.length_take, HJL.out]; omega)
    simp at e
    obtain ⟨rfl, rfl⟩ := e
    rw [hcell, nth_take _ _ _ (by omega)]
    have := nth_take js i (4 * L + P) hi
    rw [← this]; rfl
  clear hlen
  rcases (show P = 0 ∨ P = 1 ∨ P = 2 ∨ P = 3 by omega) with rfl | rfl | rfl | rfl
  · have hne : x = 0 := by simpa using hpad
    have hne' : (x == 0) = true := by simpa using hne
    clear hx hpad hne
    go_enter Try.func90, Try.ntmps90
    go_wp2_with fail
    refine hT.mono ?_
    rintro e w' ⟨rfl, rfl⟩
    go_wp2_with fail
    refine hJ.mono ?_
    rintro e w1 ⟨rfl, hown, hb⟩
    have hcv := HC.out w1 hown
    rw [Nat.add_zero] at hcv
    rw [Nat.add_zero]
    clear hown HC hT hJ
    go_wp2
    go_ret3
    exact ⟨rfl, hb⟩
  · have hne : x / 256 = 0 := by simpa using hpad
    have hne' : (x / 256 == 0) = true := by simpa using hne
    clear hx hpad hne
    go_enter Try.func90, Try.ntmps90
    go_wp2_with fail
    refine hT.mono ?_
    rintro e w' ⟨rfl, rfl⟩
    go_wp2_with fail
    refine hJ.mono ?_
    rintro e w1 ⟨rfl, hown, hb⟩
    have hcv := HC.out w1 hown
    clear hown HC hT hJ
    go_wp2
    go_ret3
    exact ⟨rfl, hb⟩
  · have hne : x / 65536 = 0 := by simpa using hpad
    have hne' : (x / 65536 == 0) = true := by simpa using hne
    clear hx hpad hne
    go_enter Try.func90, Try.ntmps90
    go_wp2_with fail
    refine hT.mono ?_
    rintro e w' ⟨rfl, rfl⟩
    go_wp2_with fail
    refine hJ.mono ?_
    rintro e w1 ⟨rfl, hown, hb⟩
    have hcv := HC.out w1 hown
    clear hown HC hT hJ
    go_wp2
    go_ret3
    exact ⟨rfl, hb⟩
  · have hne : x / 16777216 = 0 := by simpa using hpad
    have hne' : (x / 16777216 == 0) = true := by simpa using hne
    clear hx hpad hne
    go_enter Try.func90, Try.ntmps90
    go_wp2_with fail
    refine hT.mono ?_
    rintro e w' ⟨rfl, rfl⟩
    go_wp2_with fail
    refine hJ.mono ?_
    rintro e w1 ⟨rfl, hown, hb⟩
    have hcv := HC.out w1 hown
    clear hown HC hT hJ
    go_wp2
    go_ret3
    exact ⟨rfl, hb⟩

end Go.Proofs.Ytpggcpnjcalfaaa

/-
  What Text of the words package returns, as one function of the words.
-/
namespace Go.Proofs.Ytpggcpnjcalfaaa
open Go.RowKit

theorem text_any (a : Option Addr) (n cap : Nat) (zs : List Int) (w : World) (ha : View .u32 w a zs) (hl : zs.length = n) (hw : Within 4294967296 zs) (hn : 4 * n ≤ 140737488351232) (hcap : n ≤ cap) :
    Calls Try.prog 90 #[.slice a n cap] w fun e w' => e = .returned (.tuple #[.string (textI zs).1, .int .i64 (textI zs).2.1, .int .i64 (textI zs).2.2]) ∧ Below w.heap.size w w' := by
  have hj : (joinL zs).length = 4 * n := by rw [joinL_len, hl]
  by_cases h : (joinL zs).length ≤ zeroAt (joinL zs)
  · refine (text_none a n cap zs w ha hl hw (by omega) fun i hi => zeroAt_before _ _ (by omega) (by omega)).mono ?_
    rintro e w' ⟨rfl, rfl⟩
    refine ⟨?_, Below.refl _ _⟩
    rw [textI, if_pos h]
  · have hz : zeroAt (joinL zs) < (joinL zs).length := by omega
    obtain ⟨L, P, hP, hN⟩ : ∃ L P, P < 4 ∧ zeroAt (joinL zs) = 4 * L + P := ⟨zeroAt (joinL zs) / 4, zeroAt (joinL zs) % 4, by omega, by omega⟩
    have hL : L < n := by omega
    have hx := hw.at (k := L) (by omega)
    have hrest := rest_zero (nth zs L) P hP hx.1 hx.2
    have h0 : nth (joinL zs) (4 * L + P) = 0 := by rw [← hN]; exact zeroAt_at _ hz
    have hbyte : ∀ q, q < 4 → nth (joinL zs) (4 * L + q) = byt (nth zs L) q := fun q hq => by
      rw [joinL_getD _ _ (by rw [hl]; omega), show (4 * L + q) / 4 = L by omega, show (4 * L + q) % 4 = q by omega]
    have hbef : ∀ i, i < 4 * L + P → nth (joinL zs) i ≠ 0 := fun i hi => zeroAt_before _ _ (by omega) (by omega)
    have hpi := padBad_iff hN hP (by omega)
    by_cases hpad : nth zs L / 256 ^ P = 0
    · have hp : ¬ padBad (joinL zs) = true := fun h => by
        obtain ⟨q, h1, h2, h3⟩ := hpi.1 h
        rw [hbyte q h2] at h3
        exact h3 (hrest.1 hpad q (by omega) (by omega))
      refine (text_ok a n cap zs w L P ha hl hw (by omega) (by omega) hcap hL hP hbef h0 hpad).mono ?_
      rintro e w' ⟨rfl, hb⟩
      refine ⟨?_, hb⟩
      rw [textI, if_neg h, if_neg hp, hN, show (4 * L + P) / 4 = L by omega]
    · have hp : padBad (joinL zs) = true := by
        apply Classical.byContradiction
        intro hno
        apply hpad
        apply hrest.2
        intro q hq1 hq2
        by_cases e : q = P
        · subst e; rw [← hbyte q hq2]; exact h0
        · apply Classical.byContradiction
          intro hne
          exact hno (hpi.2 ⟨q, by omega, hq2, by rw [hbyte q hq2]; exact hne⟩)
      refine (text_pad a n cap zs w L P ha hl hw (by omega) hL hP hbef h0 hpad).mono ?_
      rintro e w' ⟨rfl, rfl⟩
      refine ⟨?_, Below.refl _ _⟩
      rw [textI, if_neg h, if_pos hp]

end Go.Proofs.Ytpggcpnjcalfaaa

/-
  What slices.Clone of words returns: the words in new memory; nothing that was there has turned.
-/
namespace Go.Proofs.Ytpggcpnjcalfaaa
open Go.RowKit
set_option maxRecDepth 10000

theorem Clone.info : (Try.prog.info? 26).map (fun i => (i.zero, i.size, i.bytes)) = some (some (.int .u32 0), 1, 4) := by kernel_rfl

theorem clone_nil (w : World) :
    Calls Try.prog 47 #[.slice none 0 0] w fun e w' => e = .returned (.slice none 0 0) ∧ w = w' := by
  have hn := fun w => Lib.run_eql_slice_nil (P := Try.prog) w 23 26 none 0 0 0 0 Try.underlying23
  go_enter Try.func47, Try.ntmps47
  go_wp2
  go_ret
  exact ⟨rfl, rfl⟩

set_option maxHeartbeats 400000 in
theorem clone_some (x : Addr) (n cap : Nat) (zs : List Int) (w : World) (hv : View .u32 w (some x) zs) (hl : zs.length = n) (hn : 4 * n ≤ 140737488351232) :
    Calls Try.prog 47 #[.slice (some x) n cap] w fun e w' => ∃ g cx, e = .returned (.slice (some ⟨g, 0, none⟩) n cx) ∧
      w'.ownsRow w.heap.size 26 1 (.slice (some ⟨g, 0, none⟩) n cx) n (zs.map (Value.int .u32)) ∧ Below w.heap.size w w' := by
  obtain ⟨i0, hi, hz0, hz1, hz2⟩ := info_parts Clone.info
  have hnn := fun w => Lib.run_eql_slice_nil (P := Try.prog) w 23 26 (some x) n cap 0 0 Try.underlying23
  simp only [Option.isNone_some] at hnn
  have hbs : ∀ w, (Instr.buildSlice 23 0 #[]).run Try.prog w = .ok (.slice (some ⟨w.heap.size, 0, none⟩) 0 0) (w.alloc (.cells #[] 26)) := fun w => by kernel_rfl
  have hown0 : (w.alloc (.cells #[] 26)).ownsRow w.heap.size 26 1 (.slice (some ⟨w.heap.size, 0, none⟩) 0 0) 0 [] := World.ownsRow_lit w #[] 0 (Nat.le_refl _) (by unfold maxLen; omega) rfl
  have hnews : ∀ j u, (zs.map (Value.int .u32))[j]? = some u → (w.alloc (.cells #[] 26)).cell? (x.add j) = some u := by
    intro j u hj
    rw [List.getElem?_map] at hj
    have hjl : j < zs.length := by
      rcases Nat.lt_or_ge j zs.length with h | h
      · exact h
      · rw [List.getElem?_eq_none h] at hj; simp at hj
    obtain ⟨b, off, e, hb, hc⟩ := hv j hjl
    simp at e
    subst e
    rw [Addr.add_lit, World.cell?_alloc_past _ _ _ hb, hc, ← hj, List.getElem?_eq_getElem hjl]
    simp [nth, List.getD, hjl]
  have HL : Hid (zs.length = n) := hl
  clear hl hv
  go_enter Try.func47, Try.ntmps47
  go_wp2_with (at_builtin; refine wpList_append_own _ rfl (.tmp 5) (.tmp 6) 23 rfl w.heap.size 26 i0 (.int .u32 0) 1 4 Try.underlying23 hi hz0 hz1 hz2 rfl (by decide) _ _ _ rfl hown0 x n cap (zs.map (Value.int .u32)) rfl (by rw [List.length_map, HL.out]; omega) hnews (ints_oneCell .u32 zs) (by unfold maxLen; omega) (by omega) (by simp) ?_)
  intro v' w1 hown1 hgrow1 hnil1
  have hb1 : Below w.heap.size w w1 := ((Below.refl _ w).alloc (Nat.le_refl _) _).grown hgrow1 (by simp) (fun k hk => by simp [Value.ownBlock] at hk; omega)
  have hex : ∃ g cx, v' = .slice (some ⟨g, 0, none⟩) n cx := by
    rcases hown1.2 with ⟨h1, _⟩ | ⟨g, cx, cur, h1, _⟩
    · exact absurd h1 hnil1
    · exact ⟨g, cx, h1⟩
  obtain ⟨g, cx, hv'⟩ := hex
  rw [hv'] at hown1 ⊢
  clear hnil1 hgrow1 hnews hown0
  go_wp2
  go_ret
  exact ⟨g, cx, rfl, hown1, hb1⟩

end Go.Proofs.Ytpggcpnjcalfaaa

/-
  What Byte of the document's answer returns: the k-th byte of words, for every k of theirs.
-/
namespace Go.Proofs.Ytpggcpnjcalfaaa
open Go.RowKit
set_option maxRecDepth 10000

set_option maxHeartbeats 400000 in
theorem refByte_nat (a : Option Addr) (n cap : Nat) (zs : List Int) (w : World) (k : Nat) (ha : View .u32 w a zs) (hl : zs.length = n) (hw : Within 4294967296 zs) (hn : 4 * n ≤ 140737488351232) (hk : k < 4 * n) :
    Calls Try.prog 63 #[.slice a n cap, .int .i64 k] w fun e w' => e = .returned (.int .u8 (nth (joinL zs) k)) ∧ w = w' := by
  have HJ : Hid (nth (joinL zs) k = byt (nth zs (k / 4)) (k % 4)) := joinL_getD zs k (by omega)
  obtain ⟨b, off, rfl, _, c⟩ := ha (k / 4) (by omega)
  have hx := hw.at (k := k / 4) (by omega)
  obtain ⟨X, hX⟩ : ∃ X, X = nth zs (k / 4) := ⟨_, rfl⟩
  rw [← hX] at c hx
  have HX : Hid (X = nth zs (k / 4)) := hX
  have hx0 := hx.1
  have hx1 := hx.2
  clear ha hw hX hx hl
  have i0 : (0 : Int) ≤ (k : Int) / 4 := by omega
  have i1 : (k : Int) / 4 < (n : Int) := by omega
  have ei : ((k : Int) / 4).toNat = k / 4 := by omega
  go_enter Try.func63, Try.ntmps63
  go_wp2
  go_loop [5, 6] (fun x i => ∃ j : Nat, j ≤ k % 4 ∧ i = .int .i64 j ∧ x = .int .u32 (X / 256 ^ j)) (fun _ i => 4 - (intOf i).toNat)
  case atStart => exact ⟨0, Nat.zero_le _, rfl, by simp⟩
  case round =>
    obtain ⟨j, hj, rfl, rfl⟩ := hrel
    have y0 := div_pow_lo X j hx0
    have y1 := div_pow_hi X j _ hx0 hx1
    have HS : Hid (X / 256 ^ j / 256 = X / 256 ^ (j + 1)) := div_pow_succ X j
    have HB : Hid (byt X j = X / 256 ^ j % 256) := rfl
    generalize X / 256 ^ j = y at y0 y1 HS HB
    by_cases hlt : j < k % 4
    · have hlt' : (j : Int) < (k : Int) % 4 := by omega
      go_wp2
      go_round
      case rel => exact ⟨j + 1, by omega, by go_num, by rw [HS.out]⟩
      case measure => simp [intOf]; omega
    · have hlt' : (k : Int) % 4 ≤ (j : Int) := by omega
      go_wp2
      go_ret
      obtain rfl : j = k % 4 := by omega
      exact ⟨ret_int (by rw [HJ.out, ← HX.out, HB.out]), rfl⟩

end Go.Proofs.Ytpggcpnjcalfaaa
