/-
  Texts laid together in one: RowT, IdsWithIdsR, MapN, IdsRenumber.
-/
import Derived.WalkSpells
import Derived.Test.YtlcaedibmlidlaaGreatProg
import Derived.Test.YtlcaedibmlidlaaGreatB06
import Derived.Test.YtlcaedibmlidlaaGreatB10
import Derived.WalkMore
import Derived.BigRegion
import Derived.Test.YtlcaedibmlidlaaGreatB26
import Derived.Maps.OwnSet
import Derived.Deep.RegionWith
import Derived.Test.YtlcaedibmlidlaaGreatB23
import Derived.Test.YtlcaedibmlidlaaGreatB25
/-
  A row of instructions that is filled one by one, each with arguments of its own, all in memory from a block on.
-/
namespace Go.Proofs.YtlcaedibmlidlaaGreat
open Go.RowKit
set_option linter.unusedVariables false
set_option linter.unusedSimpArgs false

theorem RowT.info : (Tryz.prog.info? 63).map (fun i => (i.zero, i.size, i.bytes)) = some (some (.agg #[.int .u16 0, .int .u32 0, .int .u32 0, .slice none 0 0]), 4, 40) := by kernel_rfl
theorem cells_canT {w : World} {g T : Nat} {cs : Array Value} (h : w.heap[g]? = some (.cells cs T (0, 0))) (j : Nat) (hj : j < cs.size) : (∃ v, w.cell? ⟨g, j, none⟩ = some v) ∧ w.frozen? ⟨g, j, none⟩ = false :=
  ⟨⟨cs[j], by simp [World.cell?, h, hj]⟩, by simp [World.frozen?, h]⟩
theorem setFarT {w : World} {g k : Nat} {o : Obj} (h : w.heap[k]? = some o) (hne : k ≠ g) (i : Nat) (u : Value) : (w.setCell ⟨g, i, none⟩ u).heap[k]? = some o := (Below.heap_setCell _ _ _ _ (by simpa using hne)).trans h
theorem three_putT {w : World} {B T : Nat} {z0 z1 z2 : Value} (h : w.heap[B]? = some (.cells #[z0, z1, z2] T (0, 0))) (u0 u1 u2 : Value) :
    (((w.setCell ⟨B, 0, none⟩ u0).setCell ⟨B, 1, none⟩ u1).setCell ⟨B, 2, none⟩ u2).heap[B]? = some (.cells #[u0, u1, u2] T (0, 0)) := by
  simp only [World.setCell, Array.getElem?_modify, h]; simp

/-- The first k instructions lie in the row at g, the arguments of each in a row of its own from block g + 1 on. -/
structure RowT (w : World) (lo g n k : Nat) (l : List InstT) : Prop where
  row : ∃ cs : Array Value, w.heap[g]? = some (.cells cs 63 (0, 0)) ∧ cs.size = n * 4
  lo : lo ≤ g
  each : ∀ j, j < k → ∃ aj cj nj, w.cell? ⟨g, j * 4, none⟩ = some (.int .u16 (nthI l j).1) ∧ w.cell? ⟨g, j * 4 + 1, none⟩ = some (.int .u32 (nthI l j).2.1) ∧ w.cell? ⟨g, j * 4 + 2, none⟩ = some (.int .u32 (nthI l j).2.2.1) ∧ w.cell? ⟨g, j * 4 + 3, none⟩ = some (.slice aj nj cj) ∧
    (nthI l j).2.2.2.length = nj ∧ w.ownsRow (g + 1) 105 3 (.slice aj nj cj) nj ((nthI l j).2.2.2.flatMap argC)

theorem RowT.below {w w' : World} {lo g n k : Nat} {l : List InstT} (h : RowT w lo g n k l) (hb : Below w.heap.size w w') : RowT w' lo g n k l := by
  obtain ⟨⟨cs, h1, h2⟩, h0, h3⟩ := h
  have hg : g < w.heap.size := (Array.getElem?_eq_some_iff.1 h1).1
  refine ⟨⟨cs, by rw [hb.block g hg]; exact h1, h2⟩, h0, fun j hj => ?_⟩
  obtain ⟨aj, cj, nj, c1, c2, c3, c4, c5, c6⟩ := h3 j hj
  exact ⟨aj, cj, nj, (hb.cell (p := ⟨g, j * 4, none⟩) hg).trans c1, (hb.cell (p := ⟨g, j * 4 + 1, none⟩) hg).trans c2, (hb.cell (p := ⟨g, j * 4 + 2, none⟩) hg).trans c3, (hb.cell (p := ⟨g, j * 4 + 3, none⟩) hg).trans c4, c5, own_below c6 hb⟩
theorem own_lowT {w : World} {lo lo' e size n : Nat} {v : Value} {xs : List Value} (h : w.ownsRow lo e size v n xs) (hl : lo' ≤ lo) : w.ownsRow lo' e size v n xs := by
  refine ⟨h.1, ?_⟩
  rcases h.2 with hn0 | ⟨g, cap, cur, e1, hb, rest⟩
  · exact .inl hn0
  · exact .inr ⟨g, cap, cur, e1, by omega, rest⟩

/-- An instruction is stored. -/
theorem RowT.store {w : World} {lo0 g n k : Nat} {l : List InstT} (h : RowT w lo0 g n k l) (hk : k < n) {x : InstT} (hx : nthI l k = x) {ak : Option Addr} {nk ck lo : Nat} (hl : x.2.2.2.length = nk) (hlo : g < lo) (ho : w.ownsRow lo 105 3 (.slice ak nk ck) nk (x.2.2.2.flatMap argC)) :
    RowT ((((w.setCell ⟨g, k * 4, none⟩ (.int .u16 x.1)).setCell ⟨g, k * 4 + 1, none⟩ (.int .u32 x.2.1)).setCell ⟨g, k * 4 + 2, none⟩ (.int .u32 x.2.2.1)).setCell ⟨g, k * 4 + 3, none⟩ (.slice ak nk ck)) lo0 g n (k + 1) l := by
  obtain ⟨⟨cs, h1, h2⟩, h0, h3⟩ := h
  obtain ⟨W, hW⟩ : ∃ W, W = (((w.setCell ⟨g, k * 4, none⟩ (.int .u16 x.1)).setCell ⟨g, k * 4 + 1, none⟩ (.int .u32 x.2.1)).setCell ⟨g, k * 4 + 2, none⟩ (.int .u32 x.2.2.1)).setCell ⟨g, k * 4 + 3, none⟩ (.slice ak nk ck) := ⟨_, rfl⟩
  have hb : W.heap[g]? = some (.cells ((((cs.setIfInBounds (k * 4) (.int .u16 x.1)).setIfInBounds (k * 4 + 1) (.int .u32 x.2.1)).setIfInBounds (k * 4 + 2) (.int .u32 x.2.2.1)).setIfInBounds (k * 4 + 3) (.slice ak nk ck)) 63 (0, 0)) := by
    rw [hW]; simp [World.setCell, Array.getElem?_modify, h1]
  have cell : ∀ j, W.cell? ⟨g, j, none⟩ = ((((cs.setIfInBounds (k * 4) (.int .u16 x.1)).setIfInBounds (k * 4 + 1) (.int .u32 x.2.1)).setIfInBounds (k * 4 + 2) (.int .u32 x.2.2.1)).setIfInBounds (k * 4 + 3) (.slice ak nk ck))[j]? := fun j => by
    simp [World.cell?, hb]
  have old : ∀ j, w.cell? ⟨g, j, none⟩ = cs[j]? := fun j => by simp [World.cell?, h1]
  have far : ∀ {lo' : Nat} {v : Value} {m : Nat} {xs : List Value}, g < lo' → w.ownsRow lo' 105 3 v m xs → W.ownsRow lo' 105 3 v m xs := fun hlt hm => by
    rw [hW]
    exact ownsRow_setCell_below (ownsRow_setCell_below (ownsRow_setCell_below (ownsRow_setCell_below hm (by simpa using hlt) _) (by simpa using hlt) _) (by simpa using hlt) _) (by simpa using hlt) _
  rw [← hW]
  refine ⟨⟨_, hb, by simp [h2]⟩, h0, fun j hj => ?_⟩
  by_cases hjk : j < k
  · obtain ⟨aj, cj, nj, c1, c2, c3, c4, c5, c6⟩ := h3 j hjk
    rw [old] at c1 c2 c3 c4
    refine ⟨aj, cj, nj, ?_, ?_, ?_, ?_, c5, far (Nat.lt_succ_self _) c6⟩
    all_goals rw [cell, Array.getElem?_setIfInBounds_ne (by omega), Array.getElem?_setIfInBounds_ne (by omega), Array.getElem?_setIfInBounds_ne (by omega), Array.getElem?_setIfInBounds_ne (by omega)]
    · exact c1
    · exact c2
    · exact c3
    · exact c4
  · obtain rfl : j = k := by omega
    rw [hx]
    refine ⟨ak, ck, nk, ?_, ?_, ?_, ?_, hl, far (Nat.lt_succ_self _) (own_lowT ho hlo)⟩
    · rw [cell, Array.getElem?_setIfInBounds_ne (by omega), Array.getElem?_setIfInBounds_ne (by omega), Array.getElem?_setIfInBounds_ne (by omega), Array.getElem?_setIfInBounds_self_of_lt (by omega)]
    · rw [cell, Array.getElem?_setIfInBounds_ne (by omega), Array.getElem?_setIfInBounds_ne (by omega), Array.getElem?_setIfInBounds_self_of_lt (by simp; omega)]
    · rw [cell, Array.getElem?_setIfInBounds_ne (by omega), Array.getElem?_setIfInBounds_self_of_lt (by simp; omega)]
    · rw [cell, Array.getElem?_setIfInBounds_self_of_lt (by simp; omega)]
theorem argsV_ownT {w : World} {B T n cap : Nat} {a : Option Addr} {l : List ArgT} (h : w.ownsRow B T 3 (.slice a n cap) n (l.flatMap argC)) (hl : l.length = n) : ArgsV w a l := by
  intro j hj
  rcases h.2 with ⟨hv, hn⟩ | ⟨g, cap', cur, hv, _, hg, _⟩
  · omega
  · cases hv
    have e := fun r (hr : r < 3) => (h.cellAt (j * 3 + r) (by omega)).trans (flat_argU l j r hj hr)
    refine ⟨g, 0, rfl, (Array.getElem?_eq_some_iff.1 hg).1, ?_, ?_, ?_⟩
    · have := e 0 (by omega); simpa [argC] using this
    · have := e 1 (by omega); simpa [argC] using this
    · have := e 2 (by omega); simpa [argC] using this
theorem own_capT {w : World} {B T n c : Nat} {a : Option Addr} {xs : List Value} (h : w.ownsRow B T 3 (.slice a n c) n xs) : n ≤ c := by
  rcases h.2 with ⟨hv, hn⟩ | ⟨g, cap', cur, hv, _, _, h4, _⟩
  · omega
  · cases hv; exact h4
theorem RowT.view {w : World} {lo g n : Nat} {l : List InstT} (h : RowT w lo g n n l) (hl : l.length = n) : InstsV w (some ⟨g, 0, none⟩) l := by
  intro j hj
  obtain ⟨aj, cj, nj, c1, c2, c3, c4, c5, c6⟩ := h.each j (by omega)
  exact ⟨g, 0, aj, cj, nj, rfl, World.block_lt_of_cell? _ _ c1, by rw [Nat.zero_add]; exact c1, by rw [Nat.zero_add]; exact c2, by rw [Nat.zero_add]; exact c3, by rw [Nat.zero_add]; exact c4, c5, argsV_ownT c6 c5, own_capT c6⟩
theorem RowT.far {w : World} {lo g n k : Nat} {l : List InstT} (h : RowT w lo g n k l) {b : Nat} (hb : b < g) (i : Nat) (v : Value) : RowT (w.setCell ⟨b, i, none⟩ v) lo g n k l := by
  obtain ⟨⟨cs, h1, h2⟩, h0, h3⟩ := h
  have hx : (w.setCell ⟨b, i, none⟩ v).heap[g]? = w.heap[g]? := Below.heap_setCell _ _ _ _ (by simp; omega)
  have hc : ∀ j, (w.setCell ⟨b, i, none⟩ v).cell? ⟨g, j, none⟩ = w.cell? ⟨g, j, none⟩ := fun j => by simp only [World.cell?, hx]
  refine ⟨⟨cs, by rw [hx]; exact h1, h2⟩, h0, fun j hj => ?_⟩
  obtain ⟨aj, cj, nj, c1, c2, c3, c4, c5, c6⟩ := h3 j hj
  exact ⟨aj, cj, nj, by rw [hc]; exact c1, by rw [hc]; exact c2, by rw [hc]; exact c3, by rw [hc]; exact c4, c5, ownsRow_setCell_below c6 (by simp; omega) _⟩
end Go.Proofs.YtlcaedibmlidlaaGreat

/-
  withIds of the package ids, with the closure ids.Renumber$1: a module with other ids, in new memory.
-/
namespace Go.Proofs.YtlcaedibmlidlaaGreat
open Go.RowKit
set_option linter.unusedVariables false
set_option linter.unusedSimpArgs false
set_option maxRecDepth 10000

set_option maxHeartbeats 8000000 in
theorem withIdsR_any (f : Int → Int) (P : Int → Prop) (cb : Nat) (gen bnd nb : Int) (ax : Option Addr) (n cx : Nat) (l : List InstT) (w : World) (hx : InstsV w ax l) (hok : InstsOk l) (hl : l.length = n) (hn : 40 * n ≤ 140737488351232)
    (hC : ∀ wx id, Below w.heap.size w wx → P id → Calls Tryz.prog 34 #[.int .u32 id, .pointer (some ⟨cb, 0, none⟩)] wx fun e w' => e = .returned (.int .u32 (f id)) ∧ wx = w')
    (hP : ∀ k, k < n → ((nthI l k).2.1 ≠ 0 → P (nthI l k).2.1) ∧ ((nthI l k).2.2.1 ≠ 0 → P (nthI l k).2.2.1) ∧ ∀ j, j < (nthI l k).2.2.2.length → (nthA (nthI l k).2.2.2 j).1 = 1 → P (nthA (nthI l k).2.2.2 j).2.1) :
    Calls Tryz.prog 33 #[modV gen bnd ax n cx, .int .u32 nb, .func (.func 34) #[] #[.pointer (some ⟨cb, 0, none⟩)]] w fun e w' => ∃ g, e = .returned (modV gen nb (some ⟨g, 0, none⟩) n n) ∧ w.heap.size ≤ g ∧ RowT w' w.heap.size g n n (turnL f l) ∧ Below w.heap.size w w' := by
  obtain ⟨i0, hi, hz0, hz1, hz2⟩ := info_parts RowT.info
  unfold modV
  have HL : Hid (l.length = n) := hl
  have HN : Hid (40 * n ≤ 140737488351232) := hn
  have HC := hide hC
  have HPP := hide hP
  have HV := hide hx
  have HOK := hide hok
  clear hl hC hP hx hok
  go_enter Tryz.func33, Tryz.ntmps33
  go_wp2_with (at_make; refine wpList_make_full _ rfl _ _ 23 rfl (w.heap.size + 2) 63 i0 (.agg #[.int .u16 0, .int .u32 0, .int .u32 0, .slice none 0 0]) 4 Tryz.underlying23 hi hz0 hz1 _ _ _ _ n rfl rfl (by omega) (by omega) (by rw [hz2]; omega) (by unfold maxLen; omega) (by simp) ?_)
  intro w1 hown1 hgrow1
  have hb0 : Below w.heap.size w ((w.alloc (.cells #[.int .u32 gen, .int .u32 bnd, .slice ax n cx] 25)).alloc (.cells #[.int .u32 0, .int .u32 0, .slice none 0 0] 25)) := ((Below.refl _ w).alloc (Nat.le_refl _) _).alloc (by simp) _
  have hb1 : Below (w.heap.size + 2) ((w.alloc (.cells #[.int .u32 gen, .int .u32 bnd, .slice ax n cx] 25)).alloc (.cells #[.int .u32 0, .int .u32 0, .slice none 0 0] 25)) w1 := (Below.refl _ _).grown hgrow1 (by simp) (by simp)
  have hbox : w1.heap[w.heap.size]? = some (.cells #[.int .u32 gen, .int .u32 bnd, .slice ax n cx] 25 (0, 0)) := (hb1.block w.heap.size (by omega)).trans ((Below.heap_alloc _ _ _ (by simp)).trans (heap_alloc_new w _))
  have hres : w1.heap[w.heap.size + 1]? = some (.cells #[.int .u32 0, .int .u32 0, .slice none 0 0] 25 (0, 0)) := (hb1.block (w.heap.size + 1) (by omega)).trans (by simpa using heap_alloc_new (w.alloc (.cells #[.int .u32 gen, .int .u32 bnd, .slice ax n cx] 25)) (.cells #[.int .u32 0, .int .u32 0, .slice none 0 0] 25))
  have hP1 : RowT w1 w.heap.size (w.heap.size + 2) n 0 (turnL f l) := by
    refine ⟨?_, by omega, fun j hj => by omega⟩
    rcases hown1.2 with ⟨h, _⟩ | ⟨g, cap', cur, h1, h2, h3, h4, h5, h6, _⟩
    · simp at h
    · simp at h1; obtain ⟨rfl, rfl⟩ := h1; exact ⟨cur, h3, h6⟩
  have hbw1 : Below w.heap.size w w1 := hb0.trans (hb1.mono (by omega))
  have HI1 := hide (And.intro hP1 (And.intro hbox (And.intro hres hbw1)))
  have m2 := (one_block hbox).1 2
  clear hown1 hgrow1 hb0 hb1 hP1 hbox hres hbw1
  go_wp2_with fail
  clear m2
  go_loopw [17] (fun i wr => ∃ k : Nat, k ≤ n ∧ i = .int .i64 k ∧ RowT wr w.heap.size (w.heap.size + 2) n k (turnL f l) ∧ wr.heap[w.heap.size]? = some (.cells #[.int .u32 gen, .int .u32 bnd, .slice ax n cx] 25 (0, 0)) ∧ wr.heap[w.heap.size + 1]? = some (.cells #[.int .u32 0, .int .u32 0, .slice none 0 0] 25 (0, 0)) ∧ Below w.heap.size w wr) (fun i _ => n - (intOf i).toNat)
  case atStart => exact ⟨0, Nat.zero_le _, rfl, HI1.out⟩
  case round =>
    obtain ⟨k, hk, rfl, hR, hbx, hrs, hnx⟩ := hrel
    clear HI1
    have hkb : (k : Int) < 140737488351232 := by have := HN.out; omega
    by_cases hlt : k < n
    · have hkl : k < l.length := by rw [HL.out]; exact hlt
      obtain ⟨b, off, aj, cj, nj, rfl, hbs, p1, p2, p3, p4, p5, p6, _⟩ := HV.out.below hnx k hkl
      obtain ⟨cs, hr1, hr2⟩ := hR.row
      have hgl : w.heap.size + 1 + 1 < wr.heap.size := (Array.getElem?_eq_some_iff.1 hr1).1
      obtain ⟨⟨u0, d0⟩, f0⟩ := cells_canT hr1 (k * 4) (by omega)
      obtain ⟨⟨u1, d1⟩, f1⟩ := cells_canT hr1 (k * 4 + 1) (by omega)
      obtain ⟨⟨u2, d2⟩, f2⟩ := cells_canT hr1 (k * 4 + 2) (by omega)
      obtain ⟨⟨u3, d3⟩, f3⟩ := cells_canT hr1 (k * 4 + 3) (by omega)
      have hki : (k : Int) < (n : Int) := by omega
      have hk0 : (0 : Int) ≤ (k : Int) := by omega
      have s1 := (HOK.out k hkl).2.2.2.2.2.2.2
      rw [p5] at s1
      obtain ⟨P1, P2, P3⟩ := HPP.out k hlt
      have hba : Below wr.heap.size wr (wr.alloc (.cells #[.int .u16 (nthI l k).1, .int .u32 (nthI l k).2.1, .int .u32 (nthI l k).2.2.1, .slice aj nj cj] 63)) := (Below.refl _ wr).alloc (Nat.le_refl _) _
      have hbw := hnx.trans (hba.mono hnx.size)
      have hT := turnedR_any f P cb (nthI l k) aj nj cj _ (p6.below hba) p5 (by omega) (fun wx id hb hp => HC.out wx id (hbw.trans (hb.mono hbw.size)) hp) P1 P2 (fun j hj => P3 j (by rw [p5]; exact hj))
      have HTL : Hid (nthI (turnL f l) k = turnX f (nthI l k)) := turnL_at f l k hkl
      have HP5 : Hid ((turnX f (nthI l k)).2.2.2.length = nj) := by show _ = _; rw [← p5]; simp [turnX]
      have HBA := hide hba
      have HBW := hide hbw
      have HR := hide hR
      have HX := hide (And.intro hbx hrs)
      have HSA : Hid ((wr.alloc (.cells #[.int .u16 (nthI l k).1, .int .u32 (nthI l k).2.1, .int .u32 (nthI l k).2.2.1, .slice aj nj cj] 63)).heap.size = wr.heap.size + 1) := by show _ = _; simp
      have HD := hide (And.intro d0 (And.intro d1 (And.intro d2 (And.intro d3 (And.intro f0 (And.intro f1 (And.intro f2 f3)))))))
      generalize turnX f (nthI l k) = zz at *
      generalize nthI l k = z at *
      obtain ⟨zo, zt, zr, zl⟩ := z
      obtain ⟨yo, yt, yr, yl⟩ := zz
      unfold instV at hT
      simp only at *
      clear hR hbx hrs hba hbw P1 P2 P3 p5 p6 s1 hr1 hr2 d0 d1 d2 d3 f0 f1 f2 f3
      go_wp2_with fail
      generalize wr.alloc (.cells #[.int .u16 zo, .int .u32 zt, .int .u32 zr, .slice aj nj cj] 63) = Y at *
      refine hT.mono ?_
      rintro e w5 ⟨a5, c5, rfl, hown5, hb5⟩
      have hb5a := HBA.out.trans (hb5.mono HBA.out.size)
      obtain ⟨d0, d1, d2, d3, f0, f1, f2, f3⟩ := HD.out
      have e1 := (hb5a.cell (p := ⟨w.heap.size + 1 + 1, k * 4, none⟩) (by exact hgl)).trans d0
      have e2 := (hb5a.cell (p := ⟨w.heap.size + 1 + 1, k * 4 + 1, none⟩) (by exact hgl)).trans d1
      have e3 := (hb5a.cell (p := ⟨w.heap.size + 1 + 1, k * 4 + 2, none⟩) (by exact hgl)).trans d2
      have e4 := (hb5a.cell (p := ⟨w.heap.size + 1 + 1, k * 4 + 3, none⟩) (by exact hgl)).trans d3
      have e5 := (hb5a.frozen (p := ⟨w.heap.size + 1 + 1, k * 4, none⟩) (by exact hgl)).trans f0
      have e6 := (hb5a.frozen (p := ⟨w.heap.size + 1 + 1, k * 4 + 1, none⟩) (by exact hgl)).trans f1
      have e7 := (hb5a.frozen (p := ⟨w.heap.size + 1 + 1, k * 4 + 2, none⟩) (by exact hgl)).trans f2
      have e8 := (hb5a.frozen (p := ⟨w.heap.size + 1 + 1, k * 4 + 3, none⟩) (by exact hgl)).trans f3
      have HP2 := hide ((HR.out.below hb5a).store hlt (x := (yo, yt, yr, yl)) HTL.out HP5.out (lo := Y.heap.size + 2) (by have := HSA.out; omega) hown5)
      have HB2 := hide (HBW.out.trans (hb5.mono HBW.out.size))
      have HX2 := hide (And.intro ((hb5a.block w.heap.size (by omega)).trans HX.out.1) ((hb5a.block (w.heap.size + 1) (by omega)).trans HX.out.2))
      clear hT hown5 hb5 hb5a d0 d1 d2 d3 f0 f1 f2 f3 HD HR HX HBA HBW
      go_wp2_with fail
      go_roundw
      case rel => exact ⟨k + 1, by omega, by go_num, HP2.out, setFarT (setFarT (setFarT (setFarT HX2.out.1 (by omega) _ _) (by omega) _ _) (by omega) _ _) (by omega) _ _, setFarT (setFarT (setFarT (setFarT HX2.out.2 (by omega) _ _) (by omega) _ _) (by omega) _ _) (by omega) _ _, (((HB2.out.setCell (by show w.heap.size ≤ w.heap.size + 1 + 1; omega) _).setCell (by show w.heap.size ≤ w.heap.size + 1 + 1; omega) _).setCell (by show w.heap.size ≤ w.heap.size + 1 + 1; omega) _).setCell (by show w.heap.size ≤ w.heap.size + 1 + 1; omega) _⟩
      case measure => simp [intOf]; omega
    · obtain rfl : k = n := by omega
      obtain ⟨hc, hf⟩ := one_block hbx
      obtain ⟨hc', hf'⟩ := one_block hrs
      have c0 := hc 0
      have r0 := hc' 0
      have r1 := hc' 1
      have r2 := hc' 2
      have HRF := hide (((hR.far (b := w.heap.size + 1) (by omega) 0 (.int .u32 gen)).far (b := w.heap.size + 1) (by omega) 1 (.int .u32 nb)).far (b := w.heap.size + 1) (by omega) 2 (.slice (some ⟨w.heap.size + 1 + 1, 0, none⟩) k k))
      have HXF := hide (three_putT hrs (.int .u32 gen) (.int .u32 nb) (.slice (some ⟨w.heap.size + 1 + 1, 0, none⟩) k k))
      have HBF := hide (((hnx.setCell (p := ⟨w.heap.size + 1, 0, none⟩) (by simp) (.int .u32 gen)).setCell (p := ⟨w.heap.size + 1, 1, none⟩) (by simp) (.int .u32 nb)).setCell (p := ⟨w.heap.size + 1, 2, none⟩) (by simp) (.slice (some ⟨w.heap.size + 1 + 1, 0, none⟩) k k))
      clear hR hbx hrs hc hc' hnx
      go_wp2_with fail
      generalize ((wr.setCell ⟨w.heap.size + 1, 0, none⟩ (.int .u32 gen)).setCell ⟨w.heap.size + 1, 1, none⟩ (.int .u32 nb)).setCell ⟨w.heap.size + 1, 2, none⟩ (.slice (some ⟨w.heap.size + 1 + 1, 0, none⟩) k k) = Z at *
      obtain ⟨hd, _⟩ := one_block HXF.out
      have d0 := hd 0
      have d1 := hd 1
      have d2 := hd 2
      refine bodyPost_ret (v := .agg #[.int .u32 gen, .int .u32 nb, .slice (some ⟨w.heap.size + 1 + 1, 0, none⟩) k k]) (by simp [results, Tryz.results33, go_sem, d0, d1, d2]) rfl ⟨w.heap.size + 1 + 1, rfl, by omega, HRF.out, HBF.out⟩

end Go.Proofs.YtlcaedibmlidlaaGreat

/-
  A map by words of just n entries.
-/
namespace Go.Proofs.YtlcaedibmlidlaaGreat
open Go.RowKit Go.Maps
set_option linter.unusedVariables false
set_option linter.unusedSimpArgs false
set_option maxRecDepth 10000

/-- Block b is a map of n entries: at the key x stands f x. -/
def MapN (w : World) (E : TypeId) (q : IntKind) (b n : Nat) (f : Int → Option Int) : Prop :=
  ∃ D : DataW Unit, w.ownsMap Tryz.prog 22 (plainElem Tryz.prog E) b n D ∧ (∀ x, Maps.has D (.int .u32 x) = (f x).isSome) ∧ (∀ x, D.atKey (.int .u32 x) (.lit (.int q 0)) = .lit (.int q ((f x).getD 0))) ∧ Maps.size D = n
theorem MapN.made (w : World) (E : TypeId) (q : IntKind) : MapN (w.alloc (.map #[] 0)) E q w.heap.size 0 (fun _ => none) :=
  ⟨.map [], World.ownsMap_made _ _ _ _, fun x => rfl, fun x => rfl, rfl⟩
theorem MapN.u {w : World} {E : TypeId} {q : IntKind} {b n : Nat} {f : Int → Option Int} (h : MapN w E q b n f) : MapU w E q b n f := by obtain ⟨D, h1, h2, h3, _⟩ := h; exact ⟨D, h1, h2, h3⟩
theorem MapN.lt {w : World} {E : TypeId} {q : IntKind} {b n : Nat} {f : Int → Option Int} (h : MapN w E q b n f) : b < w.heap.size := h.u.lt
theorem MapN.block {w w' : World} {E : TypeId} {q : IntKind} {b n : Nat} {f : Int → Option Int} (h : MapN w E q b n f) (hb : w'.heap[b]? = w.heap[b]?) : MapN w' E q b n f := by
  obtain ⟨D, ⟨es, ck, h1, h2⟩, h3⟩ := h
  exact ⟨D, ⟨es, ck, hb.trans h1, h2⟩, h3⟩
theorem MapN.below {w w' : World} {E : TypeId} {q : IntKind} {b n : Nat} {f : Int → Option Int} (h : MapN w E q b n f) (hb : Below w.heap.size w w') : MapN w' E q b n f := h.block (hb.block b h.lt)
theorem MapN.congr {w : World} {E : TypeId} {q : IntKind} {b n : Nat} {f g : Int → Option Int} (h : MapN w E q b n f) (e : ∀ x, f x = g x) : MapN w E q b n g := by
  have : f = g := funext e
  rw [← this]; exact h

section
variable {w : World} {ops : Array Oper} {rest : List Oper} {o : Oper} {a : Act} {Q : Exit → Act → World → Prop}
/-- 'm[x] = v', of a key that is not there. -/
theorem wpList_putN (hg : o.guard = none) (m x v : Operand) (t : TypeId) (hop : o.op = Op.mapUpdate t m x v) (E : TypeId) (q : IntKind) (ht : Tryz.prog.underlying t = some (.map 22 E)) (he : Tryz.prog.underlying E = some (.int q))
    (b n : Nat) (f : Int → Option Int) (hm : a.eval m = .map (some b)) (h : MapN w E q b n f) (hn : n < maxLen) (key val : Int) (hx : a.eval x = .int .u32 key) (k0 : 0 ≤ key) (k1 : key < 4294967296) (hv : a.eval v = .int q val) (hw : (Lit.int q val).wf = true) (hnew : f key = none)
    (hK : ∀ w', MapN w' E q b (n + 1) (fun y => if y = key then some val else f y) → w.grownBy w' (some b) → wpList Tryz.prog ops Q rest (a.put o.dst undef) w') : wpList Tryz.prog ops Q (o :: rest) a w := by
  obtain ⟨D, h1, h2, h3, h4⟩ := h
  have hti := h1.tidy keyU
  refine wpList_mapUpdate_own w hg m x v t hop 22 E keyU ht _ b n D hm h1 hn _ _ _ hx hv (keyU_of k0 k1) _ [] (plainElem_int he hw) ?_
  intro w' h5 h6
  obtain ⟨D', d1, d2, d3⟩ := MapU.put h1.isMap h2 h3 h5
  refine hK w' ⟨D.put (.int .u32 key) (.lit (.int q val)), h5, ?_, ?_, ?_⟩ h6
  · intro y
    show _ = (if y = key then some val else f y).isSome
    by_cases e : y = key
    · subst e; rw [if_pos rfl]; exact has_put_same (k := .int .u32 y) h1.isMap (by simp [WideAt.IsKeyLit]) _
    · rw [if_neg e, ← h2 y]; exact has_put_other (by simpa using e) _
  · intro y
    show _ = DataW.lit (.int q ((if y = key then some val else f y).getD 0))
    by_cases e : y = key
    · subst e; rw [if_pos rfl]; exact atKey_put_same (k := .int .u32 y) h1.isMap (by simp [WideAt.IsKeyLit]) _ _
    · rw [if_neg e, ← h3 y]; exact atKey_put_other (by simpa using e) _ _
  · rw [size_put hti, h2 key, hnew, h4]; rfl
/-- 'len(m)'. -/
theorem wpList_lenN (hg : o.guard = none) (m : Operand) (t : TypeId) (hop : o.op = Op.call { callee := Callee.builtin Builtin.len, args := #[m], argTypes := #[t] }) (E : TypeId) (q : IntKind) (ht : Tryz.prog.underlying t = some (.map 22 E))
    (b n : Nat) (f : Int → Option Int) (hm : a.eval m = .map (some b)) (h : MapN w E q b n f)
    (hK : wpList Tryz.prog ops Q rest (a.put o.dst (.int .i64 (n : Int))) w) : wpList Tryz.prog ops Q (o :: rest) a w := by
  obtain ⟨D, h1, h2, h3, h4⟩ := h
  refine wpList_len_own w hg m t hop 22 E ht _ b n D hm h1 ?_
  rw [h4]
  exact hK
end

end Go.Proofs.YtlcaedibmlidlaaGreat

/-
  Renumber of the package ids.
-/
namespace Go.Proofs.YtlcaedibmlidlaaGreat
open Go.RowKit Go.Maps
set_option linter.unusedVariables false
set_option linter.unusedSimpArgs false
set_option maxRecDepth 10000

theorem zeroU32 (w : World) : (zeroValue 22).run Tryz.prog w = .ok (.int .u32 0) w := by kernel_rfl
set_option maxHeartbeats 2000000 in
/-- The closure: the number of an id. -/
theorem renumber1_any (cb M n : Nat) (f : Int → Option Int) (id : Int) (w : World) (hc : w.cell? ⟨cb, 0, none⟩ = some (.map (some M))) (hm : MapU w 22 .u32 M n f) (h0 : 0 ≤ id) (h1 : id < 4294967296) :
    Calls Tryz.prog 34 #[.int .u32 id, .pointer (some ⟨cb, 0, none⟩)] w fun e w' => e = .returned (.int .u32 ((f id).getD 0)) ∧ w = w' := by
  have HM := hide hm
  have HTT := hide Tryz.underlying77
  have HTE := hide Tryz.underlying22
  clear hm
  go_enter Tryz.func34, Tryz.ntmps34
  go_wp2_with (at_lookup; refine wpList_lookU rfl _ _ 77 rfl 22 .u32 HTT.out HTE.out (zeroU32 _) M n f rfl HM.out id rfl h0 h1 ?_)
  go_ret
  exact ⟨rfl, rfl⟩

/-- Boxes of Renumber: the module, the answer's module and spot. -/
structure RnB (w : World) (gen bnd : Int) (a : Option Addr) (n c : Nat) (W : World) : Prop where
  mbox : W.heap[w.heap.size]? = some (.cells #[.int .u32 gen, .int .u32 bnd, .slice a n c] 25 (0, 0))
  rbox : W.heap[w.heap.size + 1]? = some (.cells #[.int .u32 0, .int .u32 0, .slice none 0 0] 25 (0, 0))
  sbox : W.heap[w.heap.size + 2]? = some (.cells #[.int .i64 0, .int .i64 0] 33 (0, 0))
  bel : Below w.heap.size w W
theorem RnB.size {w W : World} {gen bnd : Int} {a : Option Addr} {n c : Nat} (h : RnB w gen bnd a n c W) : w.heap.size + 2 < W.heap.size := (Array.getElem?_eq_some_iff.1 h.sbox).1
theorem RnB.below {w W W' : World} {gen bnd : Int} {a : Option Addr} {n c : Nat} (h : RnB w gen bnd a n c W) (hb : Below W.heap.size W W') : RnB w gen bnd a n c W' :=
  ⟨(hb.block _ (Array.getElem?_eq_some_iff.1 h.mbox).1).trans h.mbox, (hb.block _ (Array.getElem?_eq_some_iff.1 h.rbox).1).trans h.rbox, (hb.block _ (Array.getElem?_eq_some_iff.1 h.sbox).1).trans h.sbox, h.bel.trans (hb.mono h.bel.size)⟩
theorem RnB.far {w W W' : World} {gen bnd : Int} {a : Option Addr} {n c M : Nat} (h : RnB w gen bnd a n c W) (hg : W.grownBy W' (some M)) (hM : w.heap.size + 2 < M) : RnB w gen bnd a n c W' := by
  have hs := h.size
  exact ⟨(hg.block _ (by omega) (by simp; omega)).trans h.mbox, (hg.block _ (by omega) (by simp; omega)).trans h.rbox, (hg.block _ (by omega) (by simp; omega)).trans h.sbox, ⟨hg.os.trans h.bel.os, hg.tape.trans h.bel.tape, hg.output.trans h.bel.output, Nat.le_trans h.bel.size hg.size, fun k hk => (hg.block k (Nat.lt_of_lt_of_le hk h.bel.size) (by simp; omega)).trans (h.bel.block k hk)⟩⟩
theorem five_setN {W : World} {b c T U : Nat} {x0 x1 x2 y0 y1 : Value} (hb : W.heap[b]? = some (.cells #[x0, x1, x2] T (0, 0))) (hc : W.heap[c]? = some (.cells #[y0, y1] U (0, 0))) (hne : b ≠ c) (u0 u1 u2 v0 v1 : Value) :
    (((((W.setCell ⟨b, 0, none⟩ u0).setCell ⟨b, 1, none⟩ u1).setCell ⟨b, 2, none⟩ u2).setCell ⟨c, 0, none⟩ v0).setCell ⟨c, 1, none⟩ v1).heap[b]? = some (.cells #[u0, u1, u2] T (0, 0)) ∧
    (((((W.setCell ⟨b, 0, none⟩ u0).setCell ⟨b, 1, none⟩ u1).setCell ⟨b, 2, none⟩ u2).setCell ⟨c, 0, none⟩ v0).setCell ⟨c, 1, none⟩ v1).heap[c]? = some (.cells #[v0, v1] U (0, 0)) := by
  have hne' : ¬ c = b := fun e => hne e.symm
  constructor <;> simp [World.setCell, Array.getElem?_modify, hb, hc, hne, hne']
theorem five_belowN {w W : World} (h : Below w.heap.size w W) (u0 u1 u2 v0 v1 : Value) : Below w.heap.size w (((((W.setCell ⟨w.heap.size + 1, 0, none⟩ u0).setCell ⟨w.heap.size + 1, 1, none⟩ u1).setCell ⟨w.heap.size + 1, 2, none⟩ u2).setCell ⟨w.heap.size + 2, 0, none⟩ v0).setCell ⟨w.heap.size + 2, 1, none⟩ v1) :=
  ((((h.setCell (by simp) _).setCell (by simp) _).setCell (by simp) _).setCell (by simp) _).setCell (by simp) _
theorem max_bound {b : Int} {l : List InstT} (h : (shapeE b l).1 = 0) : b ≠ 0 ∧ b ≤ 65536 := by
  unfold shapeE at h
  split at h
  · cases h
  · omega

set_option maxHeartbeats 8000000 in
theorem idsRenumber_bad (gen : Int) (N : Nat) (a : Option Addr) (n c : Nat) (l : List InstT) (w : World) (hv : InstsV w a l) (hok : InstsOk l) (hl : l.length = n) (hn : 40 * n ≤ 140737488351232) (g0 : 0 ≤ gen) (g1 : gen < 4294967296) (hN : N < 4294967296) (hE : (idsE (N : Int) l).1 ≠ 0) :
    Calls Tryz.prog 9 #[modV gen (N : Int) a n c] w fun e w' => e = .returned (.tuple #[.agg #[.int .u32 0, .int .u32 0, .slice none 0 0], .agg #[.int .i64 (idsE (N : Int) l).1, .int .i64 (idsE (N : Int) l).2]]) ∧ Below w.heap.size w w' := by
  have hb0 : Below w.heap.size w (((w.alloc (.cells #[.int .u32 gen, .int .u32 (N : Int), .slice a n c] 25)).alloc (.cells #[.int .u32 0, .int .u32 0, .slice none 0 0] 25)).alloc (.cells #[.int .i64 0, .int .i64 0] 33)) := (((Below.refl _ w).alloc (Nat.le_refl _) _).alloc (by simp) _).alloc (by simp; omega) _
  have hR0 : RnB w gen (N : Int) a n c (((w.alloc (.cells #[.int .u32 gen, .int .u32 (N : Int), .slice a n c] 25)).alloc (.cells #[.int .u32 0, .int .u32 0, .slice none 0 0] 25)).alloc (.cells #[.int .i64 0, .int .i64 0] 33)) := by
    refine ⟨?_, ?_, ?_, hb0⟩
    · rw [Below.heap_alloc _ _ _ (by simp; omega), Below.heap_alloc _ _ _ (by simp)]; exact heap_alloc_new _ _
    · rw [Below.heap_alloc _ _ _ (by simp)]; have := heap_alloc_new (w.alloc (.cells #[.int .u32 gen, .int .u32 (N : Int), .slice a n c] 25)) (.cells #[.int .u32 0, .int .u32 0, .slice none 0 0] 25); simpa using this
    · have := heap_alloc_new ((w.alloc (.cells #[.int .u32 gen, .int .u32 (N : Int), .slice a n c] 25)).alloc (.cells #[.int .u32 0, .int .u32 0, .slice none 0 0] 25)) (.cells #[.int .i64 0, .int .i64 0] 33); simpa using this
  have hSh := idsCheck_any gen (N : Int) a n c l _ (hv.below hb0) hok hl hn g0 g1 (by omega) (by omega)
  have HR0 := hide hR0
  have HV := hide hv
  generalize idsE (N : Int) l = E at *
  obtain ⟨E1, E2⟩ := E
  simp only at hE hSh ⊢
  have hE' : (E1 != 0) = true := by simpa using hE
  unfold modV at *
  clear hb0 hR0 hv
  go_enter Tryz.func9, Tryz.ntmps9
  go_wp2_with fail
  generalize ((w.alloc (.cells #[.int .u32 gen, .int .u32 (N : Int), .slice a n c] 25)).alloc (.cells #[.int .u32 0, .int .u32 0, .slice none 0 0] 25)).alloc (.cells #[.int .i64 0, .int .i64 0] 33) = W0 at *
  refine hSh.mono ?_
  rintro e w1 ⟨rfl, hb1⟩
  have hba : Below w1.heap.size w1 (w1.alloc (.cells #[.int .i64 E1, .int .i64 (E2 : Int)] 33)) := (Below.refl _ w1).alloc (Nat.le_refl _) _
  have HR1 := hide ((HR0.out.below hb1).below hba)
  have HT := hide (heap_alloc_new w1 (.cells #[.int .i64 E1, .int .i64 (E2 : Int)] 33))
  have HW1 : Hid (w.heap.size + 2 < w1.heap.size) := Nat.lt_of_lt_of_le HR0.out.size hb1.size
  clear hSh hb1 hba HR0
  go_wp2_with fail
  generalize w1.alloc (.cells #[.int .i64 E1, .int .i64 (E2 : Int)] 33) = W1 at *
  generalize w1.heap.size = B at *
  obtain ⟨t0, t1, _⟩ := cell_of_two HT.out
  obtain ⟨rr, rf⟩ := one_block HR1.out.rbox
  obtain ⟨ss, sf⟩ := one_block HR1.out.sbox
  have r0 := rr 0
  have r1 := rr 1
  have r2 := rr 2
  have s0 := ss 0
  have s1 := ss 1
  have hne : B ≠ w.heap.size + 2 := by have := HW1.out; omega
  have hne2 : B ≠ w.heap.size + 1 := by have := HW1.out; omega
  clear rr ss
  refine wp_norm ?_
  go_region
  all_goals
    rw [onNormal_normal]
    obtain ⟨f1, f2⟩ := five_setN HR1.out.rbox HR1.out.sbox (by omega) (.int .u32 0) (.int .u32 0) (.slice none 0 0) (.int .i64 E1) (.int .i64 (E2 : Int))
    have hB5 := five_belowN HR1.out.bel (.int .u32 0) (.int .u32 0) (.slice none 0 0) (.int .i64 E1) (.int .i64 (E2 : Int))
    clear r0 r1 r2 s0 s1 rf sf
    obtain ⟨p1, _⟩ := one_block f1
    obtain ⟨p2, _⟩ := one_block f2
    have y0 := p1 0
    have y1 := p1 1
    have y2 := p1 2
    have z0 := p2 0
    have z1 := p2 1
    go_wp2_with fail
    refine bodyPost_ret (v := .tuple #[.agg #[.int .u32 0, .int .u32 0, .slice none 0 0], .agg #[.int .i64 E1, .int .i64 (E2 : Int)]]) (by first | (simp [results, Tryz.results9, go_sem, y0, y1, y2, z0, z1]; done) | (simp [results, Tryz.results9, go_sem, World.drew] at *; simp [y0, y1, y2, z0, z1])) rfl ⟨rfl, by first | exact hB5 | exact hB5.drew⟩

set_option maxHeartbeats 8000000 in
theorem idsRenumber_ok (gen : Int) (N : Nat) (a : Option Addr) (n c : Nat) (l : List InstT) (w : World) (hv : InstsV w a l) (hok : InstsOk l) (hl : l.length = n) (hn : 40 * n ≤ 140737488351232) (g0 : 0 ≤ gen) (g1 : gen < 4294967296) (hN : N < 4294967296) (hE : (idsE (N : Int) l).1 = 0) :
    Calls Tryz.prog 9 #[modV gen (N : Int) a n c] w fun e w' => ∃ g, e = .returned (.tuple #[modV gen ((cntR l n + 1 : Nat) : Int) (some ⟨g, 0, none⟩) n n, .agg #[.int .i64 0, .int .i64 0]]) ∧ w.heap.size ≤ g ∧ RowT w' w.heap.size g n n (turnL (rnF l) l) ∧ Below w.heap.size w w' := by
  have hb0 : Below w.heap.size w (((w.alloc (.cells #[.int .u32 gen, .int .u32 (N : Int), .slice a n c] 25)).alloc (.cells #[.int .u32 0, .int .u32 0, .slice none 0 0] 25)).alloc (.cells #[.int .i64 0, .int .i64 0] 33)) := (((Below.refl _ w).alloc (Nat.le_refl _) _).alloc (by simp) _).alloc (by simp; omega) _
  have hR0 : RnB w gen (N : Int) a n c (((w.alloc (.cells #[.int .u32 gen, .int .u32 (N : Int), .slice a n c] 25)).alloc (.cells #[.int .u32 0, .int .u32 0, .slice none 0 0] 25)).alloc (.cells #[.int .i64 0, .int .i64 0] 33)) := by
    refine ⟨?_, ?_, ?_, hb0⟩
    · rw [Below.heap_alloc _ _ _ (by simp; omega), Below.heap_alloc _ _ _ (by simp)]; exact heap_alloc_new _ _
    · rw [Below.heap_alloc _ _ _ (by simp)]; have := heap_alloc_new (w.alloc (.cells #[.int .u32 gen, .int .u32 (N : Int), .slice a n c] 25)) (.cells #[.int .u32 0, .int .u32 0, .slice none 0 0] 25); simpa using this
    · have := heap_alloc_new ((w.alloc (.cells #[.int .u32 gen, .int .u32 (N : Int), .slice a n c] 25)).alloc (.cells #[.int .u32 0, .int .u32 0, .slice none 0 0] 25)) (.cells #[.int .i64 0, .int .i64 0] 33); simpa using this
  have hSh := idsCheck_any gen (N : Int) a n c l _ (hv.below hb0) hok hl hn g0 g1 (by omega) (by omega)
  have HR0 := hide hR0
  have HV := hide hv
  obtain ⟨hLay, hE0, hfa⟩ := ids_sound hE
  have hsh := (layE_ok hLay).2.1
  have hbm := max_bound hsh
  have hfew : n ≤ 1048576 := by rw [← hl]; exact (shape_few hsh).1
  have HFR : Hid (∀ k, k < n → (makT l k (nthI l k).2.2.1).isSome = false) := fun k hk => fresh_at (hfa k (by omega))
  rw [hE0] at hSh
  have HWI := hide fun wx (cb : Nat) (h : InstsV wx a l) (hC : ∀ wy id, Below wx.heap.size wx wy → (0 ≤ id ∧ id < 4294967296) → Calls Tryz.prog 34 #[.int .u32 id, .pointer (some ⟨cb, 0, none⟩)] wy fun e w' => e = .returned (.int .u32 (rnF l id)) ∧ wy = w') => withIdsR_any (rnF l) (fun id => 0 ≤ id ∧ id < 4294967296) cb gen (N : Int) ((cntR l n + 1 : Nat) : Int) a n c l wx h hok hl hn hC (fun k hk => by
    have h8 := hok k (by omega)
    exact ⟨fun _ => ⟨h8.2.2.1, h8.2.2.2.1⟩, fun _ => ⟨h8.2.2.2.2.1, h8.2.2.2.2.2.1⟩, fun j hj _ => ⟨(h8.2.2.2.2.2.2.1 j hj).2.2.1, (h8.2.2.2.2.2.2.1 j hj).2.2.2.1⟩⟩)
  have HOK := hide hok
  have HL := hide hl
  have HTT := hide Tryz.underlying77
  have HTE := hide Tryz.underlying22
  have HRF : Hid (rnF l = fun id => (rnT l n id).getD 0) := by show _ = _; funext id; unfold rnF; rw [hl]
  have hmm := @run_makeMap Tryz.prog
  clear hE hbm hE0 hLay hsh hfa hok hl
  unfold modV at *
  clear hb0 hR0 hv
  go_enter Tryz.func9, Tryz.ntmps9
  go_wp2_with fail
  generalize ((w.alloc (.cells #[.int .u32 gen, .int .u32 (N : Int), .slice a n c] 25)).alloc (.cells #[.int .u32 0, .int .u32 0, .slice none 0 0] 25)).alloc (.cells #[.int .i64 0, .int .i64 0] 33) = W0 at *
  refine hSh.mono ?_
  rintro e w1 ⟨rfl, hb1⟩
  have hba : Below w1.heap.size w1 (w1.alloc (.cells #[.int .i64 0, .int .i64 0] 33)) := (Below.refl _ w1).alloc (Nat.le_refl _) _
  have HR1 := hide ((HR0.out.below hb1).below hba)
  have HT := hide (heap_alloc_new w1 (.cells #[.int .i64 0, .int .i64 0] 33))
  have HW1 : Hid (w.heap.size + 2 < w1.heap.size) := Nat.lt_of_lt_of_le HR0.out.size hb1.size
  clear hSh hb1 hba HR0
  have HM0 := hide (MapN.made (w1.alloc (.cells #[.int .i64 0, .int .i64 0] 33)) 22 .u32)
  have HSW : Hid ((w1.alloc (.cells #[.int .i64 0, .int .i64 0] 33)).heap.size = w1.heap.size + 1) := by show _ = _; simp
  obtain ⟨t0, t1, _⟩ := cell_of_two HT.out
  obtain ⟨mm, _⟩ := one_block HR1.out.mbox
  have m2 := mm 2
  have hba2 : Below (w1.alloc (.cells #[.int .i64 0, .int .i64 0] 33)).heap.size (w1.alloc (.cells #[.int .i64 0, .int .i64 0] 33)) (((w1.alloc (.cells #[.int .i64 0, .int .i64 0] 33)).alloc (.map #[] 0)).alloc (.cells #[.map (some (w1.heap.size + 1))] 77)) := ((Below.refl _ _).alloc (Nat.le_refl _) _).alloc (by simp) _
  have hba3 : Below ((w1.alloc (.cells #[.int .i64 0, .int .i64 0] 33)).alloc (.map #[] 0)).heap.size ((w1.alloc (.cells #[.int .i64 0, .int .i64 0] 33)).alloc (.map #[] 0)) (((w1.alloc (.cells #[.int .i64 0, .int .i64 0] 33)).alloc (.map #[] 0)).alloc (.cells #[.map (some (w1.heap.size + 1))] 77)) := (Below.refl _ _).alloc (Nat.le_refl _) _
  have HR2 := hide (HR1.out.below hba2)
  have HM2 := hide (HM0.out.below hba3)
  rw [HSW.out] at HM2
  have HTB : Hid ((((w1.alloc (.cells #[.int .i64 0, .int .i64 0] 33)).alloc (.map #[] 0)).alloc (.cells #[.map (some (w1.heap.size + 1))] 77)).heap[w1.heap.size + 1 + 1]? = some (.cells #[.map (some (w1.heap.size + 1))] 77 (0, 0))) := by
    have := heap_alloc_new ((w1.alloc (.cells #[.int .i64 0, .int .i64 0] 33)).alloc (.map #[] 0)) (.cells #[.map (some (w1.heap.size + 1))] 77)
    rw [World.size_alloc, HSW.out] at this
    exact this
  have m2' := (hba2.cell (p := ⟨w.heap.size, 2, none⟩) (show w.heap.size < _ by rw [HSW.out]; have := HW1.out; omega)).trans m2
  clear mm hba2 hba3
  go_wp2_with fail
  have hw1 := HW1.out
  have hMw : w.heap.size + 2 < w1.heap.size + 1 := by omega
  generalize ((w1.alloc (.cells #[.int .i64 0, .int .i64 0] 33)).alloc (.map #[] 0)).alloc (.cells #[.map (some (w1.heap.size + 1))] 77) = W2 at *
  generalize w1.heap.size + 1 = M at *
  clear t0 t1 m2 m2' HM0 hmm HSW
  go_loopw [19] (fun i wr => ∃ k : Nat, k ≤ n ∧ i = .int .i64 k ∧ RnB w gen (N : Int) a n c wr ∧ MapN wr 22 .u32 M (cntR l k) (rnT l k) ∧ wr.heap[M + 1]? = some (.cells #[.map (some M)] 77 (0, 0))) (fun i _ => n - (intOf i).toNat)
  case atStart => exact ⟨0, Nat.zero_le _, rfl, HR2.out, HM2.out.congr (fun x => rfl), HTB.out⟩
  case round =>
    obtain ⟨k, hk, rfl, hR, hM, hT⟩ := hrel
    have HR := hide hR
    have HM := hide hM
    have HTk := hide hT
    have hTl := (Array.getElem?_eq_some_iff.1 hT).1
    by_cases hlt : k < n
    · have hkl : k < l.length := by rw [HL.out]; exact hlt
      have HLT := hide hlt
      obtain ⟨g1', o1, aj, cj, nj, ha, hg1, p1, p2, p3, p4, p5, p6, p7⟩ := (HV.out.below hR.bel) k hkl
      have hki : (k : Int) < (n : Int) := by omega
      have hk0 : (0 : Int) ≤ (k : Int) := by omega
      have hz := HOK.out k hkl
      have HZR : Hid (0 ≤ (nthI l k).2.2.1 ∧ (nthI l k).2.2.1 < 4294967296) := ⟨hz.2.2.2.2.1, hz.2.2.2.2.2.1⟩
      have HNX : Hid ((nthI l k).2.2.1 ≠ 0 → ∀ y, (if y = (nthI l k).2.2.1 then some ((cntR l k + 1 : Nat) : Int) else rnT l k y) = rnT l (k + 1) y) := fun h y => rnT_next h (HFR.out k hlt) y
      have HSK : Hid ((nthI l k).2.2.1 = 0 → ∀ y, rnT l k y = rnT l (k + 1) y) := fun h y => (rnT_skip h y).symm
      have HC1 : Hid (cntR l (k + 1) = cntR l k + (if (nthI l k).2.2.1 = 0 then 0 else 1)) := rfl
      have HNN : Hid (rnT l k (nthI l k).2.2.1 = none) := rnT_none (HFR.out k hlt)
      have hck := cntR_le l k
      subst ha
      clear hR hM hT hz p5 p6 p7
      generalize nthI l k = z at *
      obtain ⟨zo, zt, zr, zl⟩ := z
      simp only at *
      have hba : Below wr.heap.size wr (wr.alloc (.cells #[.int .u16 zo, .int .u32 zt, .int .u32 zr, .slice aj nj cj] 63)) := (Below.refl _ wr).alloc (Nat.le_refl _) _
      have HRa := hide (HR.out.below hba)
      have HMa := hide (HM.out.below hba)
      have hTa := (hba.block (M + 1) hTl).trans HTk.out
      have HTa := hide hTa
      by_cases hz0 : zr = 0
      · have HCE : Hid (cntR l (k + 1) = cntR l k) := by show _ = _; rw [HC1.out, if_pos hz0]; rfl
        have HE := hide (HSK.out hz0)
        subst hz0
        clear HNX HSK HC1 HNN hba hTa
        go_wp2_with fail
        go_roundw
        case rel => exact ⟨k + 1, by omega, by go_num, HRa.out, by rw [HCE.out]; exact HMa.out.congr HE.out, HTa.out⟩
        case measure => simp [intOf]; omega
      · have hz0' : (zr != 0) = true := by simpa using hz0
        have HCE : Hid (cntR l (k + 1) = cntR l k + 1) := by show _ = _; rw [HC1.out, if_neg hz0]
        have HE := hide (HNX.out hz0)
        have r2 : (wr.alloc (.cells #[.int .u16 zo, .int .u32 zt, .int .u32 zr, .slice aj nj cj] 63)).cell? ⟨wr.heap.size, 2, none⟩ = some (.int .u32 zr) := (one_block (heap_alloc_new wr (.cells #[.int .u16 zo, .int .u32 zt, .int .u32 zr, .slice aj nj cj] 63))).1 2
        have hlz : wr.heap.size < (wr.alloc (.cells #[.int .u16 zo, .int .u32 zt, .int .u32 zr, .slice aj nj cj] 63)).heap.size := by simp
        have c5 := (one_block hTa).1 0
        have hMlt := HM.out.lt
        generalize hcc : cntR l k = cc at *
        have hcn : cc ≤ 1048576 := by omega
        have hw3 : IntKind.u32.wrap (cc : Int) = (cc : Int) := by rw [IntKind.wrap_u32]; omega
        have hw4 : IntKind.u32.wrap ((cc : Int) + 1) = ((cc + 1 : Nat) : Int) := by rw [IntKind.wrap_u32]; omega
        have HWF : Hid ((Lit.int .u32 ((cc + 1 : Nat) : Int)).wf = true) := by show _ = _; simp [Lit.wf, show IntKind.u32.min = 0 from rfl, show IntKind.u32.max = 4294967295 from rfl]; omega
        have HBD : Hid (cc < maxLen) := by show _ < _; unfold maxLen; omega
        have HMw : Hid (M ≠ wr.heap.size ∧ M + 1 ≠ wr.heap.size ∧ w.heap.size + 2 < M) := ⟨by omega, by omega, by omega⟩
        clear HNX HSK HC1 hTa
        go_wp2_with (first | (at_len; refine wpList_lenN rfl _ 77 rfl 22 .u32 HTT.out M cc (rnT l k) rfl HMa.out ?_) | (at_mapUpdate; refine wpList_putN rfl _ _ _ 77 rfl 22 .u32 HTT.out HTE.out M cc (rnT l k) rfl HMa.out HBD.out zr ((cc + 1 : Nat) : Int) rfl HZR.out.1 HZR.out.2 (by first | rfl | simp [hw3, hw4]) HWF.out HNN.out ?_; intro w5 hM5 hg5) | go_in)
        have HR5 := hide (HRa.out.far hg5 HMw.out.2.2)
        have HM5 := hide (hM5.congr HE.out)
        have HT5 := hide ((hg5.block (M + 1) (by omega) (by simp)).trans HTa.out)
        clear hM5 hg5 r2 c5
        go_wp2_with fail
        go_roundw
        case rel => exact ⟨k + 1, by omega, by go_num, HR5.out, by rw [HCE.out]; exact HM5.out, HT5.out⟩
        case measure => simp [intOf]; omega
    · obtain rfl : k = n := by omega
      have hwi := HWI.out wr (M + 1) (HV.out.below hR.bel) (fun wy id hb hid => by
        rw [HRF.out]
        exact renumber1_any (M + 1) M (cntR l k) (rnT l k) id wy ((one_block ((hb.block (M + 1) hTl).trans HTk.out)).1 0) (HM.out.u.below hb) hid.1 hid.2)
      obtain ⟨mm, _⟩ := one_block hR.mbox
      have q0 := mm 0
      have q1 := mm 1
      have q2 := mm 2
      have c5 := (one_block hT).1 0
      have hck := cntR_le l k
      generalize hcc : cntR l k = cc at *
      have hw3 : IntKind.u32.wrap (cc : Int) = (cc : Int) := by rw [IntKind.wrap_u32]; omega
      have hw4 : IntKind.u32.wrap ((cc : Int) + 1) = ((cc + 1 : Nat) : Int) := by rw [IntKind.wrap_u32]; omega
      clear hR hM hT mm HWI
      unfold modV at *
      go_wp2_with (at_len; refine wpList_lenN rfl _ 77 rfl 22 .u32 HTT.out M cc (rnT l k) rfl HM.out ?_)
      refine hwi.mono ?_
      rintro e w3 ⟨g, rfl, hg, hrow, hb3⟩
      have HR3 := hide (HR.out.below hb3)
      obtain ⟨rr, rf⟩ := one_block HR3.out.rbox
      obtain ⟨ss, sf⟩ := one_block HR3.out.sbox
      have r0 := rr 0
      have r1 := rr 1
      have r2 := rr 2
      have s0 := ss 0
      have s1 := ss 1
      have hg2 : w.heap.size + 2 < g := Nat.lt_of_lt_of_le HR.out.size hg
      have HRW := hide (((((hrow.far (b := w.heap.size + 1) (by omega) 0 (.int .u32 gen)).far (b := w.heap.size + 1) (by omega) 1 (.int .u32 ((cc + 1 : Nat) : Int))).far (b := w.heap.size + 1) (by omega) 2 (.slice (some ⟨g, 0, none⟩) k k)).far (b := w.heap.size + 2) (by omega) 0 (.int .i64 0)).far (b := w.heap.size + 2) (by omega) 1 (.int .i64 0))
      have HFV := hide (five_setN HR3.out.rbox HR3.out.sbox (by omega) (.int .u32 gen) (.int .u32 ((cc + 1 : Nat) : Int)) (.slice (some ⟨g, 0, none⟩) k k) (.int .i64 0) (.int .i64 0))
      have HB5 := hide (five_belowN HR3.out.bel (.int .u32 gen) (.int .u32 ((cc + 1 : Nat) : Int)) (.slice (some ⟨g, 0, none⟩) k k) (.int .i64 0) (.int .i64 0))
      have HGL : Hid (w.heap.size ≤ g ∧ w.heap.size ≤ wr.heap.size) := ⟨by omega, by have := HR.out.size; omega⟩
      clear rr ss hwi hb3 hrow q0 q1 q2 c5 hw3 hw4
      generalize hcd : ((cc + 1 : Nat) : Int) = cd at *
      go_wp2_with fail
      obtain ⟨f1, f2⟩ := HFV.out
      obtain ⟨p1', _⟩ := one_block f1
      obtain ⟨p2', _⟩ := one_block f2
      have y0 := p1' 0
      have y1 := p1' 1
      have y2 := p1' 2
      have z0 := p2' 0
      have z1 := p2' 1
      exact bodyPost_ret (v := .tuple #[.agg #[.int .u32 gen, .int .u32 cd, .slice (some ⟨g, 0, none⟩) k k], .agg #[.int .i64 0, .int .i64 0]]) (by simp [results, Tryz.results9, go_sem, y0, y1, y2, z0, z1]) rfl ⟨g, by rw [hcc, hcd], HGL.out.1, ⟨HRW.out.row, HGL.out.1, HRW.out.each⟩, HB5.out⟩

end Go.Proofs.YtlcaedibmlidlaaGreat
