/-
  Texts laid together in one: Ref07Text, LawAsmReads.
-/
import Derived.WalkSpells
import Derived.WalkMore
import Derived.BigRegion
import Derived.BigQuiet
import Derived.Deep.RegionHeld2
import Derived.Test.YtddackdadebjjaaGreatProg
import Derived.Test.YtddackdadebjjaaGreatB23
import Derived.Test.YtddackdadebjjaaGreatB24
import Derived.Test.YtddackdadebjjaaGreatB03
import Derived.Test.YtddackdadebjjaaGreatB22
import Derived.Test.YtddackdadebjjaaGreatB10
import Derived.Test.YtddackdadebjjaaGreatB01
import Derived.Test.YtddackdadebjjaaGreatB02
/-
  Text of the document: a module's text.
-/
namespace Go.Proofs.YtddackdadebjjaaGreat
open Go.RowKit
set_option linter.unusedVariables false
set_option linter.unusedSimpArgs false
set_option maxRecDepth 10000

structure TxB (w W : World) (gen : Int) (N : Nat) (a : Option Addr) (n c : Nat) (l : List InstT) : Prop where
  mbox : W.heap[w.heap.size]? = some (.cells #[.int .u32 gen, .int .u32 (N : Int), .slice a n c] 25 (0, 0))
  lv : InstsV W a l
  bel : Below w.heap.size w W
theorem TxB.below {w W W' : World} {gen : Int} {N : Nat} {a : Option Addr} {n c : Nat} {l : List InstT} (h : TxB w W gen N a n c l) (hb : Below W.heap.size W W') : TxB w W' gen N a n c l :=
  ⟨(hb.block _ (Array.getElem?_eq_some_iff.1 h.mbox).1).trans h.mbox, h.lv.below hb, h.bel.trans (hb.mono h.bel.size)⟩
theorem TxB.cells {w W : World} {gen : Int} {N : Nat} {a : Option Addr} {n c : Nat} {l : List InstT} (h : TxB w W gen N a n c l) : W.cell? ⟨w.heap.size, 0, none⟩ = some (.int .u32 gen) ∧ W.cell? ⟨w.heap.size, 1, none⟩ = some (.int .u32 (N : Int)) ∧ W.cell? ⟨w.heap.size, 2, none⟩ = some (.slice a n c) :=
  ⟨(one_block h.mbox).1 0, (one_block h.mbox).1 1, (one_block h.mbox).1 2⟩
/-- The text of the head and the first k instructions. -/
def mtTo (g b : Int) (l : List InstT) (k : Nat) : ByteArray := strOfNums (textM g b (l.take k))
theorem mtTo_zero (g b : Int) (l : List InstT) : mtTo g b l 0 = (((⟨#[109, 111, 100, 117, 108, 101, 32]⟩ ++ dgS g) ++ ⟨#[32]⟩) ++ dgS b) ++ ⟨#[10]⟩ := by
  apply strI_inj
  have a1 : strI (⟨#[109, 111, 100, 117, 108, 101, 32]⟩ : ByteArray) = [109, 111, 100, 117, 108, 101, 32] := rfl
  have a2 : strI (⟨#[32]⟩ : ByteArray) = [32] := rfl
  have a3 : strI (⟨#[10]⟩ : ByteArray) = [10] := rfl
  have a4 : strI modS = [109, 111, 100, 117, 108, 101] := rfl
  have e : textM g b (l.take 0) = headL g b ++ [10] := by simp [textM, joinLs]
  have hw : Within 256 (headL g b ++ [10]) := by
    refine within_appX (within_dropX ?_ 1) (within_one (by omega) (by omega))
    intro z hz
    obtain ⟨t, ht, hz⟩ := List.mem_flatMap.1 hz
    rcases List.mem_cons.1 hz with rfl | hz
    · omega
    · simp only [headTk, List.mem_cons, List.not_mem_nil, or_false] at ht
      rcases ht with rfl | rfl | rfl <;> exact strI_within _ z (by simpa [wtS] using hz)
  unfold mtTo
  rw [e, strI_of hw]
  simp [strI_append, a1, a2, a3, a4, headL, headTk, wtAll, wtS]
theorem mtTo_next (g b : Int) (l : List InstT) (k : Nat) (h : k < l.length) : mtTo g b l (k + 1) = (mtTo g b l k ++ strOfNums (wtI (nthI l k))) ++ ⟨#[10]⟩ := by
  have e2 : (⟨#[10]⟩ : ByteArray) = strOfNums [10] := by decide
  unfold mtTo
  rw [e2, ← strOfNums_append, ← strOfNums_append]
  congr 1
  unfold textM joinLs
  rw [List.take_succ_eq_append_getElem h, nthI_lt _ _ h, List.map_append, ← List.cons_append, List.flatMap_append]
  simp only [List.map_cons, List.map_nil, List.flatMap_cons, List.flatMap_nil, List.append_nil, List.append_assoc]

set_option maxHeartbeats 8000000 in
theorem refText7_any (w : World) (gen : Int) (N : Nat) (a : Option Addr) (n c : Nat) (l : List InstT) (hl : l.length = n) (hv : InstsV w a l) (hok : InstsOk l) (gg0 : 0 ≤ gen) (gg1 : gen < 4294967296) (hSH : (shapeE (N : Int) l).1 = 0) :
    Calls Tryz.prog 8 #[.agg #[.int .u32 gen, .int .u32 (N : Int), .slice a n c]] w fun e w' => e = .returned (.string (strOfNums (textM gen (N : Int) l))) ∧ Below w.heap.size w w' := by
  have hsb := shape_bound hSH
  have hraw := (shape_sum hSH).2
  have hix := oks_mem hok
  have hmem : ∀ k, k < n → nthI l k ∈ l := fun k h => by rw [nthI_lt _ _ (by omega : k < l.length)]; exact List.getElem_mem _
  have HWR : Hid (∀ k, k < n → ∀ wx aj nj cj, (nthI l k).2.2.2.length = nj → ArgsV wx aj (nthI l k).2.2.2 → Calls Tryz.prog 10 #[.agg #[.int .u16 (nthI l k).1, .int .u32 (nthI l k).2.1, .int .u32 (nthI l k).2.2.1, .slice aj nj cj]] wx fun e w' => e = .returned (.string (strOfNums (wtI (nthI l k)))) ∧ Below wx.heap.size wx w') := fun k h wx aj nj cj hj hv => by
    have hi := hix _ (hmem k h)
    have hr := hraw _ (hmem k h)
    exact refWritten7_any (nthI l k) aj nj cj wx hv hj (by have := hi.2.2.2.2.2.2.2; omega) hi (rawWs_ok hr).1 (wtI_most hi hr)
  have hwz : ∀ k, k < n → (strOfNums (wtI (nthI l k))).size ≤ 1099511627776 := fun k h => by
    have := wtI_most (hix _ (hmem k h)) (hraw _ (hmem k h))
    have e : (strOfNums (wtI (nthI l k))).size = (wtI (nthI l k)).length := by simp [strOfNums, ByteArray.size]
    rw [e]; unfold wtI; rw [List.length_drop]; omega
  have hfew := (shape_few hSH).1
  have hdz : (dgS gen).size ≤ 10 ∧ (dgS (N : Int)).size ≤ 10 := ⟨dgS_size gg1, dgS_size (by omega)⟩
  have HTZ : Hid (∀ k, k ≤ n → (mtTo gen (N : Int) l k).size ≤ 2000000000000000000) := by
    have : ∀ k, k ≤ n → (mtTo gen (N : Int) l k).size ≤ 100 + k * 1099511627800 := fun k => by
      induction k with
      | zero =>
        intro _
        rw [mtTo_zero]
        have e1 : (⟨#[109, 111, 100, 117, 108, 101, 32]⟩ : ByteArray).size = 7 := rfl
        have e2 : (⟨#[32]⟩ : ByteArray).size = 1 := rfl
        have e3 : (⟨#[10]⟩ : ByteArray).size = 1 := rfl
        simp only [ByteArray.size_append, e1, e2, e3]; omega
      | succ k ih =>
        intro h
        have i1 := ih (by omega)
        have i2 := hwz k (by omega)
        rw [mtTo_next _ _ _ _ (by omega)]
        have e2 : (⟨#[10]⟩ : ByteArray).size = 1 := rfl
        simp only [ByteArray.size_append, e2]; omega
    intro k h
    have h2 := this k h
    have : k ≤ 1048576 := by omega
    have : k * 1099511627800 ≤ 1048576 * 1099511627800 := Nat.mul_le_mul_right _ this
    omega
  have hn40 : 40 * n ≤ 140737488351232 := by omega
  have HWZ := hide hwz
  have HRES : Hid (mtTo gen (N : Int) l n = strOfNums (textM gen (N : Int) l)) := by show _ = _; unfold mtTo; rw [List.take_of_length_le (by omega)]
  have HNX := hide fun k (h : k < n) => mtTo_next gen (N : Int) l k (by omega)
  have HDG := hide fun wx => refDigitsI_any gen wx gg0 gg1
  have HDN := hide fun wx => refDigitsI_any (N : Int) wx (by omega) (by omega)
  have HT0 := hide (mtTo_zero gen (N : Int) l)
  have hba : Below w.heap.size w (w.alloc (.cells #[.int .u32 gen, .int .u32 (N : Int), .slice a n c] 25)) := (Below.refl _ w).alloc (Nat.le_refl _) _
  have HK0 : Hid (TxB w (w.alloc (.cells #[.int .u32 gen, .int .u32 (N : Int), .slice a n c] 25)) gen N a n c l) := ⟨heap_alloc_new w _, hv.below hba, hba⟩
  obtain ⟨z1, z2⟩ := hdz
  have HL := hide hl
  generalize strOfNums (textM gen (N : Int) l) = RES at *
  clear hv hba hok hl hsb hraw hix hmem hwz hfew hSH
  go_enter Tryz.func8, Tryz.ntmps8
  go_wp2_with fail
  generalize w.alloc (.cells #[.int .u32 gen, .int .u32 (N : Int), .slice a n c] 25) = W0 at *
  have hK : ∀ wx, Below W0.heap.size W0 wx → (wx.cell? ⟨w.heap.size, 0, none⟩ = some (.int .u32 gen) ∧ wx.cell? ⟨w.heap.size, 1, none⟩ = some (.int .u32 (N : Int))) := fun wx h => ⟨(HK0.out.below h).cells.1, (HK0.out.below h).cells.2.1⟩
  have hd := below_drew W0
  have fl0 : ¬ (9223372036854775807 < 7 + (dgS gen).size) := by omega
  have fl1 : ¬ (9223372036854775807 < 7 + (dgS gen).size + 1) := by omega
  have fl2 : ¬ (9223372036854775807 < 7 + (dgS gen).size + 1 + (dgS (N : Int)).size) := by omega
  have fl3 : ¬ (9223372036854775807 < 7 + (dgS gen).size + 1 + (dgS (N : Int)).size + 1) := by omega
  have fl4 : ¬ (9223372036854775800 < (dgS gen).size) := by omega
  have fl5 : ¬ (9223372036854775806 < 7 + (dgS gen).size) := by omega
  have fl6 : ¬ (9223372036854775799 < (dgS gen).size) := by omega
  have fl7 : ¬ (9223372036854775806 < 7 + (dgS gen).size + 1 + (dgS (N : Int)).size) := by omega
  have fl8 : ¬ (9223372036854775799 < (dgS gen).size + (dgS (N : Int)).size) := by omega
  go_region_held2 (fun wx => Below W0.heap.size W0 wx ∧ (wx.cell? ⟨w.heap.size, 0, none⟩ = some (.int .u32 gen) ∧ wx.cell? ⟨w.heap.size, 1, none⟩ = some (.int .u32 (N : Int))))
    (exact ⟨by assumption, hK _ (by assumption)⟩)
    (first
      | (go_at_call 17; with_reducible refine (HDG.out _).mono ?_; rintro e w' ⟨rfl, hbx⟩; have hby := growW (by assumption) hbx; clear hbx)
      | (go_at_call 17; with_reducible refine (HDN.out _).mono ?_; rintro e w' ⟨rfl, hbx⟩; have hby := growW (by assumption) hbx; clear hbx))
  all_goals
    rename World => w4
    have hb4 : Below W0.heap.size W0 w4 := by assumption
    have HK4 := hide (HK0.out.below hb4)
    obtain ⟨m0, m1, m2⟩ := HK4.out.cells
    clear hK hd HK0
    go_wp2_with fail
    clear m0 m1 m2
    go_loopw [3, 4] (fun s i wr => ∃ k : Nat, k ≤ n ∧ i = .int .i64 k ∧ s = .string (mtTo gen (N : Int) l k) ∧ TxB w wr gen N a n c l) (fun _ i _ => n - (intOf i).toNat)
    case atStart => exact ⟨0, Nat.zero_le _, rfl, by rw [HT0.out], HK4.out⟩
    case round =>
      obtain ⟨k, hk, rfl, rfl, hR⟩ := hrel
      have HR := hide hR
      obtain ⟨m0, m1, m2⟩ := hR.cells
      have hTk := HTZ.out k hk
      by_cases hlt : k < n
      · have HLT := hide hlt
        have hki : (k : Int) < (n : Int) := by omega
        have hk0 : (0 : Int) ≤ (k : Int) := by omega
        have HE := hide (HNX.out k hlt)
        obtain ⟨b, o, aj, cj, nj, rfl, hbs, a0, a1, a2, a3, hnj, hav, hcj⟩ := hR.lv k (by rw [HL.out]; exact hlt)
        have hwr := hide fun wx h => HWR.out k hlt wx aj nj cj hnj h
        have HAV := hide hav
        have hwz := HWZ.out k hlt
        clear hR hbs hnj hav hcj
        generalize strOfNums (wtI (nthI l k)) = WI at *
        generalize nthI l k = y at *
        obtain ⟨yo, yt, yr, ya⟩ := y
        simp only at a0 a1 a2 a3 hwr HAV
        go_wp2_with fail
        refine (hwr.out wr HAV.out).mono ?_
        rintro e w5 ⟨rfl, hb5⟩
        have HR5 := hide (HR.out.below hb5)
        clear hb5 HAV hwr m0 m1 m2 a0 a1 a2 a3
        go_wp2_with fail
        go_roundw
        case rel => exact ⟨k + 1, by have := HLT.out; omega, by go_num, by rw [HE.out], HR5.out⟩
        case measure => have := HLT.out; simp [intOf]; omega
      · obtain rfl : k = n := by omega
        clear hR
        go_wp2_with fail
        go_ret
        exact ⟨by rw [HRES.out]; rfl, HR.out.bel⟩

end Go.Proofs.YtddackdadebjjaaGreat

/-
  AsmReads is true for every module and every list of notes.
-/
namespace Go.Proofs.YtddackdadebjjaaGreat
open Go.RowKit
set_option linter.unusedVariables false
set_option linter.unusedSimpArgs false
set_option maxRecDepth 10000

/-- What stands while the law goes on: the box of m, and what it and the notes hold. -/
structure ArB (w W : World) (gen : Int) (N : Nat) (a : Option Addr) (n c : Nat) (l : List InstT) (ta : Option Addr) (ns : List Int) : Prop where
  mbox : W.heap[w.heap.size]? = some (.cells #[.int .u32 gen, .int .u32 (N : Int), .slice a n c] 25 (0, 0))
  lv : InstsV W a l
  nv : View .u8 W ta ns
  bel : Below w.heap.size w W
theorem ArB.below {w W W' : World} {gen : Int} {N : Nat} {a : Option Addr} {n c : Nat} {l : List InstT} {ta : Option Addr} {ns : List Int} (h : ArB w W gen N a n c l ta ns) (hb : Below W.heap.size W W') : ArB w W' gen N a n c l ta ns :=
  ⟨(hb.block _ (Array.getElem?_eq_some_iff.1 h.mbox).1).trans h.mbox, h.lv.below hb, h.nv.below hb, h.bel.trans (hb.mono h.bel.size)⟩
theorem ArB.cells {w W : World} {gen : Int} {N : Nat} {a : Option Addr} {n c : Nat} {l : List InstT} {ta : Option Addr} {ns : List Int} (h : ArB w W gen N a n c l ta ns) : W.cell? ⟨w.heap.size, 0, none⟩ = some (.int .u32 gen) ∧ W.cell? ⟨w.heap.size, 1, none⟩ = some (.int .u32 (N : Int)) ∧ W.cell? ⟨w.heap.size, 2, none⟩ = some (.slice a n c) :=
  ⟨(one_block h.mbox).1 0, (one_block h.mbox).1 1, (one_block h.mbox).1 2⟩
theorem field_zeroR (x y : Value) (w : World) : (Instr.field 29 (.agg #[x, y]) 0).run Tryz.prog w = .ok x w := by
  kernel_rfl
theorem blocks2R (w : World) (o0 o1 : Obj) : ((w.alloc o0).alloc o1).heap[w.heap.size]? = some o0 ∧ ((w.alloc o0).alloc o1).heap[w.heap.size + 1]? = some o1 ∧ Below w.heap.size w ((w.alloc o0).alloc o1) := by
  refine ⟨?_, ?_, ((Below.refl _ w).alloc (Nat.le_refl _) _).alloc (by simp) _⟩
  · rw [Below.heap_alloc _ _ _ (by simp)]; exact heap_alloc_new _ _
  · have := heap_alloc_new (w.alloc o0) o1; simpa using this
theorem text_size {gen : Int} {N : Nat} {l : List InstT} (gg1 : gen < 4294967296) (hok : InstsOk l) (hSH : (shapeE (N : Int) l).1 = 0) : (strOfNums (textM gen (N : Int) l)).size ≤ 2000000000000000000 := by
  have hsb := shape_bound hSH
  have hraw := (shape_sum hSH).2
  have hix := oks_mem hok
  have hfew := (shape_few hSH).1
  have hwz : ∀ k, k < l.length → (strOfNums (wtI (nthI l k))).size ≤ 1099511627776 := fun k h => by
    have hm : nthI l k ∈ l := by rw [nthI_lt _ _ h]; exact List.getElem_mem _
    have := wtI_most (hix _ hm) (hraw _ hm)
    have e : (strOfNums (wtI (nthI l k))).size = (wtI (nthI l k)).length := by simp [strOfNums, ByteArray.size]
    rw [e]; unfold wtI; rw [List.length_drop]; omega
  have d1 := dgS_size gg1
  have d2 := dgS_size (n := (N : Int)) (by omega)
  have key : ∀ k, k ≤ l.length → (mtTo gen (N : Int) l k).size ≤ 100 + k * 1099511627800 := fun k => by
    induction k with
    | zero =>
      intro _
      rw [mtTo_zero]
      have e1 : (⟨#[109, 111, 100, 117, 108, 101, 32]⟩ : ByteArray).size = 7 := rfl
      have e2 : (⟨#[32]⟩ : ByteArray).size = 1 := rfl
      have e3 : (⟨#[10]⟩ : ByteArray).size = 1 := rfl
      simp only [ByteArray.size_append, e1, e2, e3]; omega
    | succ k ih =>
      intro h
      have i1 := ih (by omega)
      have i2 := hwz k (by omega)
      rw [mtTo_next _ _ _ _ (by omega)]
      have e2 : (⟨#[10]⟩ : ByteArray).size = 1 := rfl
      simp only [ByteArray.size_append, e2]; omega
  have h2 := key l.length (Nat.le_refl _)
  have e : mtTo gen (N : Int) l l.length = strOfNums (textM gen (N : Int) l) := by unfold mtTo; rw [List.take_of_length_le (Nat.le_refl _)]
  rw [e] at h2
  have : l.length * 1099511627800 ≤ 1048576 * 1099511627800 := Nat.mul_le_mul_right _ hfew
  omega
theorem argsV_setR {w : World} {a : Option Addr} {l : List ArgT} (h : ArgsV w a l) {g : Nat} (hg : ∀ i x, w.cell? ⟨g, i, none⟩ ≠ some (.int .u8 x)) (i : Nat) (u : Value) : ArgsV (w.setCell ⟨g, i, none⟩ u) a l := fun j hj => by
  obtain ⟨b, o, rfl, hb, c0, c1, c2⟩ := h j hj
  have hne : b ≠ g := fun e => by subst e; exact hg _ _ c0
  exact ⟨b, o, rfl, by simpa [World.setCell] using hb, (cell_far hne _ _ _).trans c0, (cell_far hne _ _ _).trans c1, (cell_far hne _ _ _).trans c2⟩
theorem instsV_setR {w : World} {a : Option Addr} {l : List InstT} (h : InstsV w a l) {g : Nat} (hg : ∀ i x, w.cell? ⟨g, i, none⟩ ≠ some (.int .u8 x)) (hg2 : ∀ i x, w.cell? ⟨g, i, none⟩ ≠ some (.int .u16 x)) (i : Nat) (u : Value) : InstsV (w.setCell ⟨g, i, none⟩ u) a l := fun j hj => by
  obtain ⟨b, o, aj, cj, nj, rfl, hb, c0, c1, c2, c3, h4, h5, h6⟩ := h j hj
  have hne : b ≠ g := fun e => by subst e; exact hg2 _ _ c0
  exact ⟨b, o, aj, cj, nj, rfl, by simpa [World.setCell] using hb, (cell_far hne _ _ _).trans c0, (cell_far hne _ _ _).trans c1, (cell_far hne _ _ _).trans c2, (cell_far hne _ _ _).trans c3, h4, argsV_setR h5 hg i u, h6⟩
theorem not_small3 {w : World} {g T : Nat} {x y : Int} {v : Value} (h : w.heap[g]? = some (.cells #[.int .u32 x, .int .u32 y, v] T (0, 0))) (hv : ∀ z, v ≠ .int .u8 z) (hv2 : ∀ z, v ≠ .int .u16 z) : (∀ i z, w.cell? ⟨g, i, none⟩ ≠ some (.int .u8 z)) ∧ (∀ i z, w.cell? ⟨g, i, none⟩ ≠ some (.int .u16 z)) := by
  constructor
  · intro i z e
    rw [(one_block h).1 i] at e
    match i with
    | 0 => simp at e
    | 1 => simp at e
    | 2 => simp at e; exact hv z e
    | i + 3 => simp at e
  · intro i z e
    rw [(one_block h).1 i] at e
    match i with
    | 0 => simp at e
    | 1 => simp at e
    | 2 => simp at e; exact hv2 z e
    | i + 3 => simp at e
theorem not_small2 {w : World} {g T : Nat} {x y : Int} (h : w.heap[g]? = some (.cells #[.int .i64 x, .int .i64 y] T (0, 0))) : (∀ i z, w.cell? ⟨g, i, none⟩ ≠ some (.int .u8 z)) ∧ (∀ i z, w.cell? ⟨g, i, none⟩ ≠ some (.int .u16 z)) := by
  constructor
  · intro i z e
    rw [(one_block h).1 i] at e
    match i with
    | 0 => simp at e
    | 1 => simp at e
    | i + 2 => simp at e
  · intro i z e
    rw [(one_block h).1 i] at e
    match i with
    | 0 => simp at e
    | 1 => simp at e
    | i + 2 => simp at e
theorem set_blockR {w : World} {g T : Nat} {cs : Array Value} (h : w.heap[g]? = some (.cells cs T (0, 0))) (i : Nat) (u : Value) : (w.setCell ⟨g, i, none⟩ u).heap[g]? = some (.cells (cs.setIfInBounds i u) T (0, 0)) := by
  simp [World.setCell, Array.getElem?_modify, h]
theorem set_farR {w : World} {g b T : Nat} {cs : Array Value} (h : w.heap[b]? = some (.cells cs T (0, 0))) (hne : g ≠ b) (i : Nat) (u : Value) : (w.setCell ⟨g, i, none⟩ u).heap[b]? = some (.cells cs T (0, 0)) := by
  simp [World.setCell, Array.getElem?_modify, h, hne]
def smallS : ByteArray := ⟨#[109, 111, 100, 117, 108, 101, 32, 55, 32, 57, 10]⟩
theorem small_parse : parseS smallS = ((7, 9, []), 0, 0) := by kernel_rfl
/-- The text with notes, of the first j bytes. -/
def ntTo (ns : List Int) (s : ByteArray) (j : Nat) : ByteArray := strOfNums (outN ns ((strI s).take j)).1
def nkTo (ns : List Int) (s : ByteArray) (j : Nat) : Nat := (outN ns ((strI s).take j)).2
theorem ext_one (s : ByteArray) (j : Nat) (h : j < s.size) : s.extract j (j + 1) = strOfNums [(s[j].toNat : Int)] := by
  apply strI_inj
  have hb := s[j].toNat_lt
  rw [strI_extract, strI_of (within_one (by omega) (by omega)), take_snoc _ _ (by rw [strI_len]; exact h), nth_strI s j h]
  rw [List.drop_append_of_le_length (by rw [List.length_take, strI_len]; omega), List.drop_eq_nil_of_le (by rw [List.length_take, strI_len]; omega)]
  rfl
theorem nt_next (ns : List Int) (s : ByteArray) (j : Nat) (h : j < s.size) : outN ns ((strI s).take (j + 1)) = stepN ns (outN ns ((strI s).take j)) (s[j].toNat : Int) := by
  rw [take_snoc _ _ (by rw [strI_len]; exact h), nth_strI s j h, outN_snoc]
theorem nt_plain {ns : List Int} {s : ByteArray} {j : Nat} (h : j < s.size) (hc : ¬ ((s[j].toNat : Int) = 10 ∧ nkTo ns s j < ns.length)) : ntTo ns s (j + 1) = ntTo ns s j ++ s.extract j (j + 1) ∧ nkTo ns s (j + 1) = nkTo ns s j := by
  unfold nkTo at hc
  unfold ntTo nkTo
  rw [nt_next ns s j h, ext_one s j h, ← strOfNums_append]
  unfold stepN
  rw [if_neg hc]
  exact ⟨rfl, rfl⟩
theorem nt_note {ns : List Int} {s : ByteArray} {j : Nat} (h : j < s.size) (hc : (s[j].toNat : Int) = 10 ∧ nkTo ns s j < ns.length) : ntTo ns s (j + 1) = (ntTo ns s j ++ s.extract j (j + 1)) ++ insS (nth ns (nkTo ns s j)) ∧ nkTo ns s (j + 1) = nkTo ns s j + 1 := by
  unfold nkTo at hc
  unfold ntTo nkTo
  rw [nt_next ns s j h, ext_one s j h, insS_eq, ← strOfNums_append, ← strOfNums_append]
  unfold stepN
  rw [if_pos hc]
  exact ⟨rfl, rfl⟩
theorem nt_size (ns : List Int) (s : ByteArray) (j : Nat) : (ntTo ns s j).size ≤ s.size + 5 * ns.length ∧ nkTo ns s j ≤ ns.length := by
  have h := outN_len ns ((strI s).take j)
  have e : (ntTo ns s j).size = (outN ns ((strI s).take j)).1.length := by unfold ntTo; simp [strOfNums, ByteArray.size]
  rw [List.length_take, strI_len] at h
  unfold nkTo
  rw [e]
  omega

set_option maxHeartbeats 8000000 in
theorem asmReads_bad (w : World) (gen : Int) (N : Nat) (a : Option Addr) (n c : Nat) (l : List InstT) (hl : l.length = n) (hv : InstsV w a l) (hok : InstsOk l) (hn : 40 * n ≤ 140737488351232) (gg0 : 0 ≤ gen) (gg1 : gen < 4294967296) (hN : N < 4294967296) (ta : Option Addr) (tn tc : Nat) (ns : List Int) (tl : ns.length = tn) (tv : View .u8 w ta ns) (tw : Within 256 ns) (tr : tn ≤ 140737488351232)
    (E1 : Int) (E2 : Nat) (hE : shapeE (N : Int) l = (E1, E2)) (hE1 : E1 ≠ 0) :
    Calls Tryz.prog 3 #[.agg #[.int .u32 gen, .int .u32 (N : Int), .slice a n c], .slice ta tn tc] w fun e w' => e = .returned (.bool true) ∧ Below w.heap.size w w' := by
  have HCP := hide fun wx (h : InstsV wx a l) => copyModule_any gen (N : Int) a n c l wx h hok hl hn
  have HSH : Hid (∀ wx g, InstsV wx (some ⟨g, 0, none⟩) l → Calls Tryz.prog 5 #[.agg #[.int .u32 gen, .int .u32 (N : Int), .slice (some ⟨g, 0, none⟩) n n]] wx fun e w' => e = .returned (.agg #[.int .i64 E1, .int .i64 E2]) ∧ Below wx.heap.size wx w') := fun wx g h => by
    have := codeShape_any gen (N : Int) (some ⟨g, 0, none⟩) n n l wx gg0 gg1 (by omega) (by omega) h hok hl hn
    rw [hE] at this
    exact this
  have hba : Below w.heap.size w (w.alloc (.cells #[.int .u32 gen, .int .u32 (N : Int), .slice a n c] 25)) := (Below.refl _ w).alloc (Nat.le_refl _) _
  have HK0 : Hid (ArB w (w.alloc (.cells #[.int .u32 gen, .int .u32 (N : Int), .slice a n c] 25)) gen N a n c l ta ns) := ⟨heap_alloc_new w _, hv.below hba, tv.below hba, hba⟩
  have hfz := field_zeroR (.int .i64 E1) (.int .i64 E2)
  unfold modV at *
  have HL := hide hl
  have HVV := hide hv
  have HOK := hide hok
  have HTL := hide tl
  have HTW := hide tw
  clear hv hba hok hl hE tl tv tw
  go_enter Tryz.func3, Tryz.ntmps3
  go_wp2_with fail
  generalize w.alloc (.cells #[.int .u32 gen, .int .u32 (N : Int), .slice a n c] 25) = W0 at *
  refine (HCP.out W0 HK0.out.lv).mono ?_
  rintro e w1 ⟨g1, rfl, _, hv1, hb1⟩
  have hsh := HSH.out w1 g1 hv1
  have HK1 := hide (HK0.out.below hb1)
  clear hb1 hv1 HK0
  go_wp2_with fail
  refine hsh.mono ?_
  rintro e w2 ⟨rfl, hb2⟩
  have HK2 := hide (HK1.out.below hb2)
  clear hsh hb2 HK1
  have hE1' : (E1 != 0) = true := by simpa using hE1
  go_wp2_with fail
  go_ret
  exact ⟨rfl, HK2.out.bel⟩

set_option maxHeartbeats 8000000 in
theorem asmReads_main (w : World) (gen : Int) (N : Nat) (a : Option Addr) (n c : Nat) (l : List InstT) (hl : l.length = n) (hv : InstsV w a l) (hok : InstsOk l) (hn : 40 * n ≤ 140737488351232) (gg0 : 0 ≤ gen) (gg1 : gen < 4294967296) (hN : N < 4294967296) (ta : Option Addr) (tn tc : Nat) (ns : List Int) (tl : ns.length = tn) (tv : View .u8 w ta ns) (tw : Within 256 ns) (tr : tn ≤ 140737488351232)
    (hE : shapeE (N : Int) l = (0, 0)) :
    Calls Tryz.prog 3 #[.agg #[.int .u32 gen, .int .u32 (N : Int), .slice a n c], .slice ta tn tc] w fun e w' => e = .returned (.bool true) ∧ Below w.heap.size w w' := by
  have hSH : (shapeE (N : Int) l).1 = 0 := by rw [hE]
  obtain ⟨TX, hTX⟩ : ∃ TX, TX = strOfNums (textM gen (N : Int) l) := ⟨_, rfl⟩
  have hsT : strI TX = textM gen (N : Int) l := by rw [hTX]; exact strI_of (joinLs_within (textM_ok gg1 hok hSH))
  have hnt : ntTo ns TX TX.size = strOfNums (outN ns (textM gen (N : Int) l)).1 := by unfold ntTo; rw [List.take_of_length_le (by rw [strI_len]; omega), hsT]
  have HNP : Hid ((ntTo ns TX TX.size).size ≤ 16777216 → parseS (ntTo ns TX TX.size) = ((gen, (N : Int), l), 0, 0)) := by
    show _ → _
    rw [hnt]; exact fun hz => noted_parse ns gg0 gg1 hok hSH hz
  have HTX : Hid (∀ wx, InstsV wx a l → Calls Tryz.prog 8 #[.agg #[.int .u32 gen, .int .u32 (N : Int), .slice a n c]] wx fun e w' => e = .returned (.string TX) ∧ Below wx.heap.size wx w') := fun wx h => by rw [hTX]; exact refText7_any wx gen N a n c l hl h hok gg0 gg1 hSH
  have hTZ : TX.size ≤ 2000000000000000000 := by rw [hTX]; exact text_size gg1 hok hSH
  have HTZ := hide hTZ
  have hsp := asmParse_main smallS
  rw [small_parse] at hsp
  have HSP := hide fun wx => hsp wx (by decide)
  have HKM := hide fun wx ax c' (h1 : InstsV wx ax l) (h2 : InstsV wx a l) => kitModule_any gen (N : Int) gen (N : Int) l l ax a n n c' c wx h1 h2 hl hl hok hok (by omega) (by omega) true (by simp)
  clear hsp hSH hTX hsT hnt hTZ
  have HCP := hide fun wx (h : InstsV wx a l) => copyModule_any gen (N : Int) a n c l wx h hok hl hn
  have HSH : Hid (∀ wx g, InstsV wx (some ⟨g, 0, none⟩) l → Calls Tryz.prog 5 #[.agg #[.int .u32 gen, .int .u32 (N : Int), .slice (some ⟨g, 0, none⟩) n n]] wx fun e w' => e = .returned (.agg #[.int .i64 0, .int .i64 0]) ∧ Below wx.heap.size wx w') := fun wx g h => by
    have := codeShape_any gen (N : Int) (some ⟨g, 0, none⟩) n n l wx gg0 gg1 (by omega) (by omega) h hok hl hn
    rw [hE] at this
    exact this
  have hba : Below w.heap.size w (w.alloc (.cells #[.int .u32 gen, .int .u32 (N : Int), .slice a n c] 25)) := (Below.refl _ w).alloc (Nat.le_refl _) _
  have HK0 : Hid (ArB w (w.alloc (.cells #[.int .u32 gen, .int .u32 (N : Int), .slice a n c] 25)) gen N a n c l ta ns) := ⟨heap_alloc_new w _, hv.below hba, tv.below hba, hba⟩
  have hfz := field_zeroR (.int .i64 0) (.int .i64 0)
  unfold modV at *
  have HL := hide hl
  have HVV := hide hv
  have HOK := hide hok
  have HTL := hide tl
  have HTW := hide tw
  clear hv hba hok hl hE tl tv tw
  go_enter Tryz.func3, Tryz.ntmps3
  go_wp2_with fail
  generalize w.alloc (.cells #[.int .u32 gen, .int .u32 (N : Int), .slice a n c] 25) = W0 at *
  refine (HCP.out W0 HK0.out.lv).mono ?_
  rintro e w1 ⟨g1, rfl, _, hv1, hb1⟩
  have hsh := HSH.out w1 g1 hv1
  have HK1 := hide (HK0.out.below hb1)
  clear hb1 hv1 HK0
  go_wp2_with fail
  refine hsh.mono ?_
  rintro e w2 ⟨rfl, hb2⟩
  have HK2 := hide (HK1.out.below hb2)
  clear hsh hb2 HK1
  go_wp2_with fail
  refine (HSP.out w2).mono ?_
  rintro e w3 ⟨a3, n3, c3, rfl, _, hn3, _, hb3⟩
  obtain rfl : n3 = 0 := hn3.symm
  have HNE : Hid (w.heap.size < w3.heap.size) := (Array.getElem?_eq_some_iff.1 (HK2.out.below hb3).mbox).1
  obtain ⟨k0, k1, hba3⟩ := blocks2R w3 (.cells #[.int .u32 7, .int .u32 9, .slice a3 0 c3] 25) (.cells #[.int .i64 0, .int .i64 0] 29)
  have HK4 := hide ((HK2.out.below hb3).below hba3)
  have HNB := hide (And.intro k0 k1)
  obtain ⟨m0, m1, m2⟩ := HK4.out.cells
  clear hb3 hn3 HK2 HSP k0 k1 hba3
  go_wp2_with fail
  generalize (w3.alloc (.cells #[.int .u32 7, .int .u32 9, .slice a3 0 c3] 25)).alloc (.cells #[.int .i64 0, .int .i64 0] 29) = W4 at *
  refine (HTX.out W4 HK4.out.lv).mono ?_
  rintro e w5 ⟨rfl, hb5⟩
  have HK5 := hide (HK4.out.below hb5)
  have HN5 := hide (And.intro ((hb5.block _ (Array.getElem?_eq_some_iff.1 HNB.out.1).1).trans HNB.out.1) ((hb5.block _ (Array.getElem?_eq_some_iff.1 HNB.out.2).1).trans HNB.out.2))
  clear hb5 HK4 HNB m0 m1 m2 HTX
  generalize w3.heap.size = NB at *
  have hsi : IntKind.i64.wrap ((TX.size : Int) + 6 * (tn : Int)) = (TX.size : Int) + 6 * (tn : Int) := by have := HTZ.out; rw [IntKind.wrap_i64]; omega
  have hsj : IntKind.i64.wrap (6 * (tn : Int)) = 6 * (tn : Int) := by rw [IntKind.wrap_i64]; omega
  by_cases hz : TX.size + 6 * tn ≤ 16777216
  · have z1 : decide ((16777216 : Int) < (TX.size : Int) + 6 * (tn : Int)) = false := by simp only [decide_eq_false_iff_not]; omega
    have HZ := hide hz
    clear hz
    go_wp2_with fail
    clear z1 hsi hsj
    go_loopw [8, 9, 10] (fun s q i wr => ∃ j : Nat, j ≤ TX.size ∧ i = .int .i64 j ∧ s = .string (ntTo ns TX j) ∧ q = .int .i64 ((nkTo ns TX j : Nat) : Int) ∧ Below w5.heap.size w5 wr) (fun _ _ i _ => TX.size - (intOf i).toNat)
    case atStart => exact ⟨0, Nat.zero_le _, rfl, rfl, rfl, Below.refl _ _⟩
    case round =>
      obtain ⟨j, hj, rfl, rfl, rfl, hB⟩ := hrel
      have HB := hide hB
      obtain ⟨hsz, hkz⟩ := nt_size ns TX j
      rw [HTL.out] at hsz hkz
      have hsz' : (ntTo ns TX j).size ≤ 16777216 := by have := HZ.out; omega
      have htxz : TX.size ≤ 16777216 := by have := HZ.out; omega
      by_cases hlt : j < TX.size
      · have HLT := hide hlt
        have hji : (j : Int) < (TX.size : Int) := by omega
        have hj0 : (0 : Int) ≤ (j : Int) := by omega
        have hjw : IntKind.i64.wrap ((j : Int) + 1) = (j : Int) + 1 := by rw [IntKind.wrap_i64]; omega
        have hpl := hide fun h => nt_plain (ns := ns) (s := TX) (j := j) hlt h
        have hno := hide fun h => nt_note (ns := ns) (s := TX) (j := j) hlt h
        rw [HTL.out] at hpl hno
        generalize nkTo ns TX j = kk at *
        by_cases hc : (TX[j].toNat : Int) = 10
        · have hcb : ((TX[j].toNat : Int) == 10) = true := by simpa using hc
          by_cases hk : kk < tn
          · have hki : (kk : Int) < (tn : Int) := by omega
            have hkk0 : (0 : Int) ≤ (kk : Int) := by omega
            obtain ⟨b, o, rfl, hbs, hcell⟩ := (HK5.out.below hB).nv kk (by rw [HTL.out]; exact hk)
            have hvr := HTW.out.at (k := kk) (by rw [HTL.out]; exact hk)
            obtain ⟨e1, e2⟩ := hno.out ⟨hc, hk⟩
            generalize nth ns kk = v at *
            have htm : Int.tmod v 4 = v % 4 := Int.tmod_eq_emod_of_nonneg hvr.1
            have hwm : IntKind.u8.wrap (v % 4) = v % 4 := by rw [IntKind.wrap_u8]; omega
            clear hB hpl hno hbs hkz hsz
            have hkw : IntKind.i64.wrap ((kk : Int) + 1) = (kk : Int) + 1 := by rw [IntKind.wrap_i64]; omega
            have HE2 := hide e2
            have hv4 : v % 4 = 0 ∨ v % 4 = 1 ∨ v % 4 = 2 ∨ v % 4 = 3 := by omega
            rcases hv4 with hv4 | hv4 | hv4 | hv4
            · have HE1 : Hid (ntTo ns TX (j + 1) = (ntTo ns TX j ++ TX.extract j (j + 1)) ++ ⟨#[59, 32, 37, 49, 10]⟩) := by show _ = _; rw [e1]; unfold insS; rw [if_pos hv4]
              clear e1 e2
              go_wp2_with fail
              exact ⟨⟨j + 1, HLT.out, rfl, by rw [HE1.out], by rw [HE2.out]; rfl, HB.out⟩, by have := HLT.out; simp [intOf]; omega⟩
            · have HE1 : Hid (ntTo ns TX (j + 1) = (ntTo ns TX j ++ TX.extract j (j + 1)) ++ ⟨#[32, 9, 10]⟩) := by show _ = _; rw [e1]; unfold insS; rw [if_neg (by omega)]; rw [if_pos hv4]
              clear e1 e2
              go_wp2_with fail
              exact ⟨⟨j + 1, HLT.out, rfl, by rw [HE1.out], by rw [HE2.out]; rfl, HB.out⟩, by have := HLT.out; simp [intOf]; omega⟩
            · have HE1 : Hid (ntTo ns TX (j + 1) = (ntTo ns TX j ++ TX.extract j (j + 1)) ++ ⟨#[32, 32]⟩) := by show _ = _; rw [e1]; unfold insS; rw [if_neg (by omega)]; rw [if_neg (by omega)]; rw [if_pos hv4]
              clear e1 e2
              go_wp2_with fail
              exact ⟨⟨j + 1, HLT.out, rfl, by rw [HE1.out], by rw [HE2.out]; rfl, HB.out⟩, by have := HLT.out; simp [intOf]; omega⟩
            · have HE1 : Hid (ntTo ns TX (j + 1) = ntTo ns TX j ++ TX.extract j (j + 1)) := by show _ = _; rw [e1]; unfold insS; rw [if_neg (by omega), if_neg (by omega), if_neg (by omega)]; apply strI_inj; have a4 : strI (⟨#[]⟩ : ByteArray) = [] := rfl; rw [strI_append, a4, List.append_nil]
              clear e1 e2
              go_wp2_with fail
              exact ⟨⟨j + 1, HLT.out, rfl, by rw [HE1.out], by rw [HE2.out]; rfl, HB.out⟩, by have := HLT.out; simp [intOf]; omega⟩
          · have hkd : decide ((kk : Int) < (tn : Int)) = false := by simp; omega
            have hkd2 : decide (kk < tn) = false := by simp; omega
            obtain ⟨e1, e2⟩ := hpl.out (fun h => hk h.2)
            have HE1 := hide e1
            have HE2 := hide e2
            clear hB hpl hno hkz hsz hk e1 e2
            go_wp2_with fail
            exact ⟨⟨j + 1, HLT.out, rfl, by rw [HE1.out], by rw [HE2.out], HB.out⟩, by have := HLT.out; simp [intOf]; omega⟩
        · have hcb : ((TX[j].toNat : Int) == 10) = false := by simpa using hc
          have hcn : ¬ TX[j].toNat = 10 := by omega
          have hcn2 : (TX[j].toNat == 10) = false := by simpa using hcn
          obtain ⟨e1, e2⟩ := hpl.out (fun h => hc h.1)
          have HE1 := hide e1
          have HE2 := hide e2
          clear hB hpl hno hkz hsz e1 e2
          go_wp2_with fail
          exact ⟨⟨j + 1, HLT.out, rfl, by rw [HE1.out], by rw [HE2.out], HB.out⟩, by have := HLT.out; simp [intOf]; omega⟩
      · obtain rfl : j = TX.size := by omega
        have hnp := HNP.out hsz'
        have hap := asmParse_main (ntTo ns TX TX.size) wr hsz'
        rw [hnp] at hap
        have HK6 := hide (HK5.out.below hB)
        have HN6 := hide (And.intro ((hB.block _ (Array.getElem?_eq_some_iff.1 HN5.out.1).1).trans HN5.out.1) ((hB.block _ (Array.getElem?_eq_some_iff.1 HN5.out.2).1).trans HN5.out.2))
        clear hnp hB HB hlt hsz hkz HK5 HN5 HNP
        go_wp2_with fail
        refine hap.mono ?_
        rintro e w7 ⟨a7, n7, c7, rfl, hv7, hn7, _, hb7⟩
        simp only at hn7
        obtain rfl : n = n7 := by rw [← hn7]; exact HL.out.symm
        have HK7 := hide (HK6.out.below hb7)
        have HN7 := hide (And.intro ((hb7.block _ (Array.getElem?_eq_some_iff.1 HN6.out.1).1).trans HN6.out.1) ((hb7.block _ (Array.getElem?_eq_some_iff.1 HN6.out.2).1).trans HN6.out.2))
        have HV7 : Hid (InstsV w7 a7 l) := hv7
        clear hap hv7 hn7 hb7 HK6 HN6
        dsimp only
        have b0 := (one_block HN7.out.1).1 0
        have b1 := (one_block HN7.out.1).1 1
        have b2 := (one_block HN7.out.1).1 2
        have f0 := (one_block HN7.out.1).2
        have f1 := (one_block HN7.out.2).2
        obtain ⟨s0, s1, _⟩ := cell_of_two HN7.out.2
        obtain ⟨m0, m1, m2⟩ := HK7.out.cells
        have hne1 : ¬ w.heap.size = NB := by have := HNE.out; omega
        have hne2 : ¬ w.heap.size = NB + 1 := by have := HNE.out; omega
        go_wp2_with fail
        have hn1 := HN7.out.1
        have hn2 := HN7.out.2
        have q0 := not_small3 hn1 (fun z => by simp) (fun z => by simp)
        have v1 := instsV_setR HV7.out q0.1 q0.2 0 (.int .u32 gen)
        have h1 := set_blockR hn1 0 (.int .u32 gen)
        have k1 := set_farR hn2 (by omega : NB ≠ NB + 1) 0 (.int .u32 gen)
        have q1 := not_small3 (x := gen) (y := 9) h1 (fun z => by simp) (fun z => by simp)
        have v2 := instsV_setR v1 q1.1 q1.2 1 (.int .u32 (N : Int))
        have h2 := set_blockR h1 1 (.int .u32 (N : Int))
        have k2 := set_farR k1 (by omega : NB ≠ NB + 1) 1 (.int .u32 (N : Int))
        have q2 := not_small3 (x := gen) (y := (N : Int)) h2 (fun z => by simp) (fun z => by simp)
        have v3 := instsV_setR v2 q2.1 q2.2 2 (.slice a7 n c7)
        have k3 := set_farR k2 (by omega : NB ≠ NB + 1) 2 (.slice a7 n c7)
        have q3 := not_small2 k3
        have v4 := instsV_setR v3 q3.1 q3.2 0 (.int .i64 0)
        have k4 := set_blockR k3 0 (.int .i64 0)
        have q4 := not_small2 (x := 0) (y := 0) k4
        have v5 := instsV_setR v4 q4.1 q4.2 1 (.int .i64 0)
        have hb8 : Below w.heap.size w (((((w7.setCell ⟨NB, 0, none⟩ (.int .u32 gen)).setCell ⟨NB, 1, none⟩ (.int .u32 (N : Int))).setCell ⟨NB, 2, none⟩ (.slice a7 n c7)).setCell ⟨NB + 1, 0, none⟩ (.int .i64 0)).setCell ⟨NB + 1, 1, none⟩ (.int .i64 0)) := ((((HK7.out.bel.setCell (by have := HNE.out; simp; omega) _).setCell (by have := HNE.out; simp; omega) _).setCell (by have := HNE.out; simp; omega) _).setCell (by have := HNE.out; simp; omega) _).setCell (by have := HNE.out; simp; omega) _
        have hkm := HKM.out _ a7 c7 v5 (HVV.out.below hb8)
        have HB8 := hide hb8
        clear hn1 hn2 q0 v1 h1 k1 q1 v2 h2 k2 q2 v3 k3 q3 v4 k4 q4 v5 hb8 b0 b1 b2 f0 f1 s0 s1 m0 m1 m2 HK7 HN7
        generalize ((((w7.setCell ⟨NB, 0, none⟩ (.int .u32 gen)).setCell ⟨NB, 1, none⟩ (.int .u32 (N : Int))).setCell ⟨NB, 2, none⟩ (.slice a7 n c7)).setCell ⟨NB + 1, 0, none⟩ (.int .i64 0)).setCell ⟨NB + 1, 1, none⟩ (.int .i64 0) = W8 at *
        refine hkm.mono ?_
        rintro e w9 ⟨rfl, hb9⟩
        have HB9 := hide (HB8.out.trans (hb9.mono HB8.out.size))
        clear hkm hb9 HB8
        go_wp2_with fail
        go_ret
        exact ⟨rfl, HB9.out⟩
  · have z1 : decide ((16777216 : Int) < (TX.size : Int) + 6 * (tn : Int)) = true := by simp only [decide_eq_true_eq]; omega
    clear hz
    go_wp2_with fail
    go_ret
    exact ⟨rfl, HK5.out.bel⟩

theorem asmReads_true (w : World) (gen bnd : Int) (a : Option Addr) (n c : Nat) (l : List InstT) (hl : l.length = n) (hv : InstsV w a l) (hok : InstsOk l) (hn : 40 * n ≤ 140737488351232) (hc : n ≤ c) (hgb : 0 ≤ gen ∧ gen < 4294967296 ∧ 0 ≤ bnd ∧ bnd < 4294967296) (ta : Option Addr) (tn tc : Nat) (ns : List Int) (tl : ns.length = tn) (tv : View .u8 w ta ns) (tw : Within 256 ns) (tr : 1 * tn ≤ 140737488351232) :
    Calls Tryz.prog 3 #[.agg #[.int .u32 gen, .int .u32 bnd, .slice a n c], .slice ta tn tc] w fun e w' => e = .returned (.bool true) ∧ Below w.heap.size w w' := by
  obtain ⟨g0, g1, b0, b1⟩ := hgb
  obtain ⟨N, rfl⟩ : ∃ N : Nat, bnd = (N : Int) := ⟨bnd.toNat, by omega⟩
  have hN : N < 4294967296 := by omega
  rcases shapeE_any (N : Int) l with hE | hE
  · exact asmReads_main w gen N a n c l hl hv hok hn g0 g1 hN ta tn tc ns tl tv tw (by omega) hE
  · exact asmReads_bad w gen N a n c l hl hv hok hn g0 g1 hN ta tn tc ns tl tv tw (by omega) _ _ rfl hE

end Go.Proofs.YtddackdadebjjaaGreat
