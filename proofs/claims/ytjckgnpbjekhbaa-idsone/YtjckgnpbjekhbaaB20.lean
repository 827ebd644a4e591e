/-
  Texts laid together in one: RowT, IdsWithIdsA, SlicesEqualArgs, CodeSameInst, CodeSame, KitCopyInstO, KitCopyModuleO.
-/
import Derived.WalkSpells
import Derived.Test.YtjckgnpbjekhbaaProg
import Derived.Test.YtjckgnpbjekhbaaB01
import Derived.Test.YtjckgnpbjekhbaaB10
import Derived.WalkMore
import Derived.BigRegion
import Derived.Test.YtjckgnpbjekhbaaB19
import Derived.Deep.QuietTactic
import Derived.BigQuiet
import Derived.Deep.RegionWith
import Derived.Deep.DrawnRows
import Derived.Test.YtjckgnpbjekhbaaB03
import Derived.Test.YtjckgnpbjekhbaaB08
import Derived.Test.YtjckgnpbjekhbaaB02
/-
  A row of instructions that is filled one by one, each with arguments of its own, all in memory from a block on.
-/
namespace Go.Proofs.Ytjckgnpbjekhbaa
open Go.RowKit
set_option linter.unusedVariables false
set_option linter.unusedSimpArgs false

theorem RowT.info : (Try.prog.info? 38).map (fun i => (i.zero, i.size, i.bytes)) = some (some (.agg #[.int .u16 0, .int .u32 0, .int .u32 0, .slice none 0 0]), 4, 40) := by kernel_rfl
theorem cells_canT {w : World} {g T : Nat} {cs : Array Value} (h : w.heap[g]? = some (.cells cs T (0, 0))) (j : Nat) (hj : j < cs.size) : (∃ v, w.cell? ⟨g, j, none⟩ = some v) ∧ w.frozen? ⟨g, j, none⟩ = false :=
  ⟨⟨cs[j], by simp [World.cell?, h, hj]⟩, by simp [World.frozen?, h]⟩
theorem setFarT {w : World} {g k : Nat} {o : Obj} (h : w.heap[k]? = some o) (hne : k ≠ g) (i : Nat) (u : Value) : (w.setCell ⟨g, i, none⟩ u).heap[k]? = some o := (Below.heap_setCell _ _ _ _ (by simpa using hne)).trans h
theorem three_putT {w : World} {B T : Nat} {z0 z1 z2 : Value} (h : w.heap[B]? = some (.cells #[z0, z1, z2] T (0, 0))) (u0 u1 u2 : Value) :
    (((w.setCell ⟨B, 0, none⟩ u0).setCell ⟨B, 1, none⟩ u1).setCell ⟨B, 2, none⟩ u2).heap[B]? = some (.cells #[u0, u1, u2] T (0, 0)) := by
  simp only [World.setCell, Array.getElem?_modify, h]; simp

/-- The first k instructions lie in the row at g, the arguments of each in a row of its own from block g + 1 on. -/
structure RowT (w : World) (lo g n k : Nat) (l : List InstT) : Prop where
  row : ∃ cs : Array Value, w.heap[g]? = some (.cells cs 38 (0, 0)) ∧ cs.size = n * 4
  lo : lo ≤ g
  each : ∀ j, j < k → ∃ aj cj nj, w.cell? ⟨g, j * 4, none⟩ = some (.int .u16 (nthI l j).1) ∧ w.cell? ⟨g, j * 4 + 1, none⟩ = some (.int .u32 (nthI l j).2.1) ∧ w.cell? ⟨g, j * 4 + 2, none⟩ = some (.int .u32 (nthI l j).2.2.1) ∧ w.cell? ⟨g, j * 4 + 3, none⟩ = some (.slice aj nj cj) ∧
    (nthI l j).2.2.2.length = nj ∧ w.ownsRow (g + 1) 55 3 (.slice aj nj cj) nj ((nthI l j).2.2.2.flatMap argC)

theorem RowT.below {w w' : World} {lo g n k : Nat} {l : List InstT} (h : RowT w lo g n k l) (hb : Below w.heap.size w w') : RowT w' lo g n k l := by
  obtain ⟨⟨cs, h1, h2⟩, h0, h3⟩ := h
  have hg : g < w.heap.size := (Array.getElem?_eq_some_iff.1 h1).1
  refine ⟨⟨cs, by rw [hb.block g hg]; exact h1, h2⟩, h0, fun j hj => ?_⟩
  obtain ⟨aj, cj, nj, c1, c2, c3, c4, c5, c6⟩ := h3 j hj
  exact ⟨aj, cj, nj, (hb.cell (p := ⟨g, j * 4, none⟩) hg).trans c1, (hb.cell (p := ⟨g, j * 4 + 1, none⟩) hg).trans c2, (hb.cell (p := ⟨g, j * 4 + 2, none⟩) hg).trans c3, (hb.cell (p := ⟨g, j * 4 + 3, none⟩) hg).trans c4, c5, own_below c6 hb⟩
theorem own_lowT {w : World} {lo lo' e size n : Nat} {v : Value} {xs : List Value} (h : w.ownsRow lo e size v n xs) (hl : lo' ≤ lo) : w.ownsRow lo' e size v n xs := by
  refine ⟨h.1, ?_⟩
  rcases h.2 with hn0 | ⟨g, cap, cur, e1, hb, rest⟩
  · exact .inl hn0
  · exact .inr ⟨g, cap, cur, e1, by omega, rest⟩

/-- An instruction is stored. -/
theorem RowT.store {w : World} {lo0 g n k : Nat} {l : List InstT} (h : RowT w lo0 g n k l) (hk : k < n) {x : InstT} (hx : nthI l k = x) {ak : Option Addr} {nk ck lo : Nat} (hl : x.2.2.2.length = nk) (hlo : g < lo) (ho : w.ownsRow lo 55 3 (.slice ak nk ck) nk (x.2.2.2.flatMap argC)) :
    RowT ((((w.setCell ⟨g, k * 4, none⟩ (.int .u16 x.1)).setCell ⟨g, k * 4 + 1, none⟩ (.int .u32 x.2.1)).setCell ⟨g, k * 4 + 2, none⟩ (.int .u32 x.2.2.1)).setCell ⟨g, k * 4 + 3, none⟩ (.slice ak nk ck)) lo0 g n (k + 1) l := by
  obtain ⟨⟨cs, h1, h2⟩, h0, h3⟩ := h
  obtain ⟨W, hW⟩ : ∃ W, W = (((w.setCell ⟨g, k * 4, none⟩ (.int .u16 x.1)).setCell ⟨g, k * 4 + 1, none⟩ (.int .u32 x.2.1)).setCell ⟨g, k * 4 + 2, none⟩ (.int .u32 x.2.2.1)).setCell ⟨g, k * 4 + 3, none⟩ (.slice ak nk ck) := ⟨_, rfl⟩
  have hb : W.heap[g]? = some (.cells ((((cs.setIfInBounds (k * 4) (.int .u16 x.1)).setIfInBounds (k * 4 + 1) (.int .u32 x.2.1)).setIfInBounds (k * 4 + 2) (.int .u32 x.2.2.1)).setIfInBounds (k * 4 + 3) (.slice ak nk ck)) 38 (0, 0)) := by
    rw [hW]; simp [World.setCell, Array.getElem?_modify, h1]
  have cell : ∀ j, W.cell? ⟨g, j, none⟩ = ((((cs.setIfInBounds (k * 4) (.int .u16 x.1)).setIfInBounds (k * 4 + 1) (.int .u32 x.2.1)).setIfInBounds (k * 4 + 2) (.int .u32 x.2.2.1)).setIfInBounds (k * 4 + 3) (.slice ak nk ck))[j]? := fun j => by
    simp [World.cell?, hb]
  have old : ∀ j, w.cell? ⟨g, j, none⟩ = cs[j]? := fun j => by simp [World.cell?, h1]
  have far : ∀ {lo' : Nat} {v : Value} {m : Nat} {xs : List Value}, g < lo' → w.ownsRow lo' 55 3 v m xs → W.ownsRow lo' 55 3 v m xs := fun hlt hm => by
    rw [hW]
    exact ownsRow_setCell_below (ownsRow_setCell_below (ownsRow_setCell_below (ownsRow_setCell_below hm (by simpa using hlt) _) (by simpa using hlt) _) (by simpa using hlt) _) (by simpa using hlt) _
  rw [← hW]
  refine ⟨⟨_, hb, by simp [h2]⟩, h0, fun j hj => ?_⟩
  by_cases hjk : j < k
  · obtain ⟨aj, cj, nj, c1, c2, c3, c4, c5, c6⟩ := h3 j hjk
    rw [old] at c1 c2 c3 c4
    refine ⟨aj, cj, nj, ?_, ?_, ?_, ?_, c5, far (Nat.lt_succ_self _) c6⟩
    all_goals rw [cell, Array.getElem?_setIfInBounds_ne (by omega), Array.getElem?_setIfInBounds_ne (by omega), Array.getElem?_setIfInBounds_ne (by omega), Array.getElem?_setIfInBounds_ne (by omega)]
    · exact c1
    · exact c2
    · exact c3
    · exact c4
  · obtain rfl : j = k := by omega
    rw [hx]
    refine ⟨ak, ck, nk, ?_, ?_, ?_, ?_, hl, far (Nat.lt_succ_self _) (own_lowT ho hlo)⟩
    · rw [cell, Array.getElem?_setIfInBounds_ne (by omega), Array.getElem?_setIfInBounds_ne (by omega), Array.getElem?_setIfInBounds_ne (by omega), Array.getElem?_setIfInBounds_self_of_lt (by omega)]
    · rw [cell, Array.getElem?_setIfInBounds_ne (by omega), Array.getElem?_setIfInBounds_ne (by omega), Array.getElem?_setIfInBounds_self_of_lt (by simp; omega)]
    · rw [cell, Array.getElem?_setIfInBounds_ne (by omega), Array.getElem?_setIfInBounds_self_of_lt (by simp; omega)]
    · rw [cell, Array.getElem?_setIfInBounds_self_of_lt (by simp; omega)]
theorem argsV_ownT {w : World} {B T n cap : Nat} {a : Option Addr} {l : List ArgT} (h : w.ownsRow B T 3 (.slice a n cap) n (l.flatMap argC)) (hl : l.length = n) : ArgsV w a l := by
  intro j hj
  rcases h.2 with ⟨hv, hn⟩ | ⟨g, cap', cur, hv, _, hg, _⟩
  · omega
  · cases hv
    have e := fun r (hr : r < 3) => (h.cellAt (j * 3 + r) (by omega)).trans (flat_argU l j r hj hr)
    refine ⟨g, 0, rfl, (Array.getElem?_eq_some_iff.1 hg).1, ?_, ?_, ?_⟩
    · have := e 0 (by omega); simpa [argC] using this
    · have := e 1 (by omega); simpa [argC] using this
    · have := e 2 (by omega); simpa [argC] using this
theorem own_capT {w : World} {B T n c : Nat} {a : Option Addr} {xs : List Value} (h : w.ownsRow B T 3 (.slice a n c) n xs) : n ≤ c := by
  rcases h.2 with ⟨hv, hn⟩ | ⟨g, cap', cur, hv, _, _, h4, _⟩
  · omega
  · cases hv; exact h4
theorem RowT.view {w : World} {lo g n : Nat} {l : List InstT} (h : RowT w lo g n n l) (hl : l.length = n) : InstsV w (some ⟨g, 0, none⟩) l := by
  intro j hj
  obtain ⟨aj, cj, nj, c1, c2, c3, c4, c5, c6⟩ := h.each j (by omega)
  exact ⟨g, 0, aj, cj, nj, rfl, World.block_lt_of_cell? _ _ c1, by rw [Nat.zero_add]; exact c1, by rw [Nat.zero_add]; exact c2, by rw [Nat.zero_add]; exact c3, by rw [Nat.zero_add]; exact c4, c5, argsV_ownT c6 c5, own_capT c6⟩
theorem RowT.far {w : World} {lo g n k : Nat} {l : List InstT} (h : RowT w lo g n k l) {b : Nat} (hb : b < g) (i : Nat) (v : Value) : RowT (w.setCell ⟨b, i, none⟩ v) lo g n k l := by
  obtain ⟨⟨cs, h1, h2⟩, h0, h3⟩ := h
  have hx : (w.setCell ⟨b, i, none⟩ v).heap[g]? = w.heap[g]? := Below.heap_setCell _ _ _ _ (by simp; omega)
  have hc : ∀ j, (w.setCell ⟨b, i, none⟩ v).cell? ⟨g, j, none⟩ = w.cell? ⟨g, j, none⟩ := fun j => by simp only [World.cell?, hx]
  refine ⟨⟨cs, by rw [hx]; exact h1, h2⟩, h0, fun j hj => ?_⟩
  obtain ⟨aj, cj, nj, c1, c2, c3, c4, c5, c6⟩ := h3 j hj
  exact ⟨aj, cj, nj, by rw [hc]; exact c1, by rw [hc]; exact c2, by rw [hc]; exact c3, by rw [hc]; exact c4, c5, ownsRow_setCell_below c6 (by simp; omega) _⟩
end Go.Proofs.Ytjckgnpbjekhbaa

/-
  withIds of the package ids, with the closure ids.Alike$1: a module with other ids, in new memory.
-/
namespace Go.Proofs.Ytjckgnpbjekhbaa
open Go.RowKit
set_option linter.unusedVariables false
set_option linter.unusedSimpArgs false
set_option maxRecDepth 10000

set_option maxHeartbeats 8000000 in
theorem withIdsA_any (f : Int → Int) (P : Int → Prop) (cb : Nat) (gen bnd nb : Int) (ax : Option Addr) (n cx : Nat) (l : List InstT) (w : World) (hx : InstsV w ax l) (hok : InstsOk l) (hl : l.length = n) (hn : 40 * n ≤ 140737488351232)
    (hC : ∀ wx id, Below w.heap.size w wx → P id → Calls Try.prog 20 #[.int .u32 id, .pointer (some ⟨cb, 0, none⟩)] wx fun e w' => e = .returned (.int .u32 (f id)) ∧ wx = w')
    (hP : ∀ k, k < n → ((nthI l k).2.1 ≠ 0 → P (nthI l k).2.1) ∧ ((nthI l k).2.2.1 ≠ 0 → P (nthI l k).2.2.1) ∧ ∀ j, j < (nthI l k).2.2.2.length → (nthA (nthI l k).2.2.2 j).1 = 1 → P (nthA (nthI l k).2.2.2 j).2.1) :
    Calls Try.prog 19 #[modV gen bnd ax n cx, .int .u32 nb, .func (.func 20) #[] #[.pointer (some ⟨cb, 0, none⟩)]] w fun e w' => ∃ g, e = .returned (modV gen nb (some ⟨g, 0, none⟩) n n) ∧ w.heap.size ≤ g ∧ RowT w' w.heap.size g n n (turnL f l) ∧ Below w.heap.size w w' := by
  obtain ⟨i0, hi, hz0, hz1, hz2⟩ := info_parts RowT.info
  unfold modV
  have HL : Hid (l.length = n) := hl
  have HN : Hid (40 * n ≤ 140737488351232) := hn
  have HC := hide hC
  have HPP := hide hP
  have HV := hide hx
  have HOK := hide hok
  clear hl hC hP hx hok
  go_enter Try.func19, Try.ntmps19
  go_wp2_with (at_make; refine wpList_make_full _ rfl _ _ 23 rfl (w.heap.size + 2) 38 i0 (.agg #[.int .u16 0, .int .u32 0, .int .u32 0, .slice none 0 0]) 4 Try.underlying23 hi hz0 hz1 _ _ _ _ n rfl rfl (by omega) (by omega) (by rw [hz2]; omega) (by unfold maxLen; omega) (by simp) ?_)
  intro w1 hown1 hgrow1
  have hb0 : Below w.heap.size w ((w.alloc (.cells #[.int .u32 gen, .int .u32 bnd, .slice ax n cx] 25)).alloc (.cells #[.int .u32 0, .int .u32 0, .slice none 0 0] 25)) := ((Below.refl _ w).alloc (Nat.le_refl _) _).alloc (by simp) _
  have hb1 : Below (w.heap.size + 2) ((w.alloc (.cells #[.int .u32 gen, .int .u32 bnd, .slice ax n cx] 25)).alloc (.cells #[.int .u32 0, .int .u32 0, .slice none 0 0] 25)) w1 := (Below.refl _ _).grown hgrow1 (by simp) (by simp)
  have hbox : w1.heap[w.heap.size]? = some (.cells #[.int .u32 gen, .int .u32 bnd, .slice ax n cx] 25 (0, 0)) := (hb1.block w.heap.size (by omega)).trans ((Below.heap_alloc _ _ _ (by simp)).trans (heap_alloc_new w _))
  have hres : w1.heap[w.heap.size + 1]? = some (.cells #[.int .u32 0, .int .u32 0, .slice none 0 0] 25 (0, 0)) := (hb1.block (w.heap.size + 1) (by omega)).trans (by simpa using heap_alloc_new (w.alloc (.cells #[.int .u32 gen, .int .u32 bnd, .slice ax n cx] 25)) (.cells #[.int .u32 0, .int .u32 0, .slice none 0 0] 25))
  have hP1 : RowT w1 w.heap.size (w.heap.size + 2) n 0 (turnL f l) := by
    refine ⟨?_, by omega, fun j hj => by omega⟩
    rcases hown1.2 with ⟨h, _⟩ | ⟨g, cap', cur, h1, h2, h3, h4, h5, h6, _⟩
    · simp at h
    · simp at h1; obtain ⟨rfl, rfl⟩ := h1; exact ⟨cur, h3, h6⟩
  have hbw1 : Below w.heap.size w w1 := hb0.trans (hb1.mono (by omega))
  have HI1 := hide (And.intro hP1 (And.intro hbox (And.intro hres hbw1)))
  have m2 := (one_block hbox).1 2
  clear hown1 hgrow1 hb0 hb1 hP1 hbox hres hbw1
  go_wp2_with fail
  clear m2
  go_loopw [17] (fun i wr => ∃ k : Nat, k ≤ n ∧ i = .int .i64 k ∧ RowT wr w.heap.size (w.heap.size + 2) n k (turnL f l) ∧ wr.heap[w.heap.size]? = some (.cells #[.int .u32 gen, .int .u32 bnd, .slice ax n cx] 25 (0, 0)) ∧ wr.heap[w.heap.size + 1]? = some (.cells #[.int .u32 0, .int .u32 0, .slice none 0 0] 25 (0, 0)) ∧ Below w.heap.size w wr) (fun i _ => n - (intOf i).toNat)
  case atStart => exact ⟨0, Nat.zero_le _, rfl, HI1.out⟩
  case round =>
    obtain ⟨k, hk, rfl, hR, hbx, hrs, hnx⟩ := hrel
    clear HI1
    have hkb : (k : Int) < 140737488351232 := by have := HN.out; omega
    by_cases hlt : k < n
    · have hkl : k < l.length := by rw [HL.out]; exact hlt
      obtain ⟨b, off, aj, cj, nj, rfl, hbs, p1, p2, p3, p4, p5, p6, _⟩ := HV.out.below hnx k hkl
      obtain ⟨cs, hr1, hr2⟩ := hR.row
      have hgl : w.heap.size + 1 + 1 < wr.heap.size := (Array.getElem?_eq_some_iff.1 hr1).1
      obtain ⟨⟨u0, d0⟩, f0⟩ := cells_canT hr1 (k * 4) (by omega)
      obtain ⟨⟨u1, d1⟩, f1⟩ := cells_canT hr1 (k * 4 + 1) (by omega)
      obtain ⟨⟨u2, d2⟩, f2⟩ := cells_canT hr1 (k * 4 + 2) (by omega)
      obtain ⟨⟨u3, d3⟩, f3⟩ := cells_canT hr1 (k * 4 + 3) (by omega)
      have hki : (k : Int) < (n : Int) := by omega
      have hk0 : (0 : Int) ≤ (k : Int) := by omega
      have s1 := (HOK.out k hkl).2.2.2.2.2.2.2
      rw [p5] at s1
      obtain ⟨P1, P2, P3⟩ := HPP.out k hlt
      have hba : Below wr.heap.size wr (wr.alloc (.cells #[.int .u16 (nthI l k).1, .int .u32 (nthI l k).2.1, .int .u32 (nthI l k).2.2.1, .slice aj nj cj] 38)) := (Below.refl _ wr).alloc (Nat.le_refl _) _
      have hbw := hnx.trans (hba.mono hnx.size)
      have hT := turnedA_any f P cb (nthI l k) aj nj cj _ (p6.below hba) p5 (by omega) (fun wx id hb hp => HC.out wx id (hbw.trans (hb.mono hbw.size)) hp) P1 P2 (fun j hj => P3 j (by rw [p5]; exact hj))
      have HTL : Hid (nthI (turnL f l) k = turnX f (nthI l k)) := turnL_at f l k hkl
      have HP5 : Hid ((turnX f (nthI l k)).2.2.2.length = nj) := by show _ = _; rw [← p5]; simp [turnX]
      have HBA := hide hba
      have HBW := hide hbw
      have HR := hide hR
      have HX := hide (And.intro hbx hrs)
      have HSA : Hid ((wr.alloc (.cells #[.int .u16 (nthI l k).1, .int .u32 (nthI l k).2.1, .int .u32 (nthI l k).2.2.1, .slice aj nj cj] 38)).heap.size = wr.heap.size + 1) := by show _ = _; simp
      have HD := hide (And.intro d0 (And.intro d1 (And.intro d2 (And.intro d3 (And.intro f0 (And.intro f1 (And.intro f2 f3)))))))
      generalize turnX f (nthI l k) = zz at *
      generalize nthI l k = z at *
      obtain ⟨zo, zt, zr, zl⟩ := z
      obtain ⟨yo, yt, yr, yl⟩ := zz
      unfold instV at hT
      simp only at *
      clear hR hbx hrs hba hbw P1 P2 P3 p5 p6 s1 hr1 hr2 d0 d1 d2 d3 f0 f1 f2 f3
      go_wp2_with fail
      generalize wr.alloc (.cells #[.int .u16 zo, .int .u32 zt, .int .u32 zr, .slice aj nj cj] 38) = Y at *
      refine hT.mono ?_
      rintro e w5 ⟨a5, c5, rfl, hown5, hb5⟩
      have hb5a := HBA.out.trans (hb5.mono HBA.out.size)
      obtain ⟨d0, d1, d2, d3, f0, f1, f2, f3⟩ := HD.out
      have e1 := (hb5a.cell (p := ⟨w.heap.size + 1 + 1, k * 4, none⟩) (by exact hgl)).trans d0
      have e2 := (hb5a.cell (p := ⟨w.heap.size + 1 + 1, k * 4 + 1, none⟩) (by exact hgl)).trans d1
      have e3 := (hb5a.cell (p := ⟨w.heap.size + 1 + 1, k * 4 + 2, none⟩) (by exact hgl)).trans d2
      have e4 := (hb5a.cell (p := ⟨w.heap.size + 1 + 1, k * 4 + 3, none⟩) (by exact hgl)).trans d3
      have e5 := (hb5a.frozen (p := ⟨w.heap.size + 1 + 1, k * 4, none⟩) (by exact hgl)).trans f0
      have e6 := (hb5a.frozen (p := ⟨w.heap.size + 1 + 1, k * 4 + 1, none⟩) (by exact hgl)).trans f1
      have e7 := (hb5a.frozen (p := ⟨w.heap.size + 1 + 1, k * 4 + 2, none⟩) (by exact hgl)).trans f2
      have e8 := (hb5a.frozen (p := ⟨w.heap.size + 1 + 1, k * 4 + 3, none⟩) (by exact hgl)).trans f3
      have HP2 := hide ((HR.out.below hb5a).store hlt (x := (yo, yt, yr, yl)) HTL.out HP5.out (lo := Y.heap.size + 2) (by have := HSA.out; omega) hown5)
      have HB2 := hide (HBW.out.trans (hb5.mono HBW.out.size))
      have HX2 := hide (And.intro ((hb5a.block w.heap.size (by omega)).trans HX.out.1) ((hb5a.block (w.heap.size + 1) (by omega)).trans HX.out.2))
      clear hT hown5 hb5 hb5a d0 d1 d2 d3 f0 f1 f2 f3 HD HR HX HBA HBW
      go_wp2_with fail
      go_roundw
      case rel => exact ⟨k + 1, by omega, by go_num, HP2.out, setFarT (setFarT (setFarT (setFarT HX2.out.1 (by omega) _ _) (by omega) _ _) (by omega) _ _) (by omega) _ _, setFarT (setFarT (setFarT (setFarT HX2.out.2 (by omega) _ _) (by omega) _ _) (by omega) _ _) (by omega) _ _, (((HB2.out.setCell (by show w.heap.size ≤ w.heap.size + 1 + 1; omega) _).setCell (by show w.heap.size ≤ w.heap.size + 1 + 1; omega) _).setCell (by show w.heap.size ≤ w.heap.size + 1 + 1; omega) _).setCell (by show w.heap.size ≤ w.heap.size + 1 + 1; omega) _⟩
      case measure => simp [intOf]; omega
    · obtain rfl : k = n := by omega
      obtain ⟨hc, hf⟩ := one_block hbx
      obtain ⟨hc', hf'⟩ := one_block hrs
      have c0 := hc 0
      have r0 := hc' 0
      have r1 := hc' 1
      have r2 := hc' 2
      have HRF := hide (((hR.far (b := w.heap.size + 1) (by omega) 0 (.int .u32 gen)).far (b := w.heap.size + 1) (by omega) 1 (.int .u32 nb)).far (b := w.heap.size + 1) (by omega) 2 (.slice (some ⟨w.heap.size + 1 + 1, 0, none⟩) k k))
      have HXF := hide (three_putT hrs (.int .u32 gen) (.int .u32 nb) (.slice (some ⟨w.heap.size + 1 + 1, 0, none⟩) k k))
      have HBF := hide (((hnx.setCell (p := ⟨w.heap.size + 1, 0, none⟩) (by simp) (.int .u32 gen)).setCell (p := ⟨w.heap.size + 1, 1, none⟩) (by simp) (.int .u32 nb)).setCell (p := ⟨w.heap.size + 1, 2, none⟩) (by simp) (.slice (some ⟨w.heap.size + 1 + 1, 0, none⟩) k k))
      clear hR hbx hrs hc hc' hnx
      go_wp2_with fail
      generalize ((wr.setCell ⟨w.heap.size + 1, 0, none⟩ (.int .u32 gen)).setCell ⟨w.heap.size + 1, 1, none⟩ (.int .u32 nb)).setCell ⟨w.heap.size + 1, 2, none⟩ (.slice (some ⟨w.heap.size + 1 + 1, 0, none⟩) k k) = Z at *
      obtain ⟨hd, _⟩ := one_block HXF.out
      have d0 := hd 0
      have d1 := hd 1
      have d2 := hd 2
      refine bodyPost_ret (v := .agg #[.int .u32 gen, .int .u32 nb, .slice (some ⟨w.heap.size + 1 + 1, 0, none⟩) k k]) (by simp [results, Try.results19, go_sem, d0, d1, d2]) rfl ⟨w.heap.size + 1 + 1, rfl, by omega, HRF.out, HBF.out⟩

end Go.Proofs.Ytjckgnpbjekhbaa

/-
  Equal of the package slices, of arguments, tells whether they are the same.
-/
namespace Go.Proofs.Ytjckgnpbjekhbaa
open Go.RowKit
set_option maxRecDepth 10000

set_option maxHeartbeats 1000000 in
theorem argsEqual_any (xl yl : List ArgT) (ax ay : Option Addr) (n m cx cy : Nat) (w : World) (hx : ArgsV w ax xl) (hy : ArgsV w ay yl) (hlx : xl.length = n) (hly : yl.length = m) (hn : n ≤ 140737488351232) (hm : m ≤ 140737488351232) :
    Calls Try.prog 46 #[.slice ax n cx, .slice ay m cy] w fun e w' => e = .returned (.bool (decide (xl = yl))) ∧ ∃ q, w' = w.drewN q := by
  have HLX : Hid (xl.length = n) := hlx
  have HLY : Hid (yl.length = m) := hly
  clear hlx hly
  by_cases H : n = m
  · subst H
    go_enter Try.func46, Try.ntmps46
    go_wp2
    go_loopw [13] (fun i wr => ∃ k q : Nat, k ≤ n ∧ i = .int .i64 k ∧ wr = w.drewN q ∧ ∀ j, j < k → nthA xl j = nthA yl j) (fun i _ => n - (intOf i).toNat)
    case atStart => exact ⟨0, 0, Nat.zero_le _, rfl, rfl, fun j hj => by omega⟩
    case round =>
      obtain ⟨k, q, hk, rfl, rfl, hall⟩ := hrel
      have HALL : Hid (∀ j, j < k → nthA xl j = nthA yl j) := hall
      clear hall
      by_cases hlt : k < n
      · obtain ⟨b1, o1, rfl, _, c1, c2, c3⟩ := hx k (by rw [HLX.out]; exact hlt)
        obtain ⟨b2, o2, rfl, _, d1, d2, d3⟩ := hy k (by rw [HLY.out]; exact hlt)
        have hk0 : (0 : Int) ≤ (k : Int) := by omega
        have hki : (k : Int) < (n : Int) := by omega
        by_cases he : nthA xl k = nthA yl k
        · rw [← he] at d1 d2 d3
          obtain ⟨z, hz⟩ : ∃ z, z = nthA xl k := ⟨_, rfl⟩
          obtain ⟨z1, z2, z3⟩ := z
          rw [← hz] at c1 c2 c3 d1 d2 d3
          have HE : Hid (nthA xl k = nthA yl k) := he
          clear hx hy hz he
          go_wp2
          try (go_quiet (fail))
          go_wp2
          go_roundw
          case rel => exact ⟨k + 1, _, by omega, by go_num, rfl, fun j hj => by
            by_cases hjk : j < k
            · exact HALL.out j hjk
            · obtain rfl : j = k := by omega
              exact HE.out⟩
          case measure => simp [intOf]; omega
        · obtain ⟨z, hz⟩ : ∃ z, z = nthA xl k := ⟨_, rfl⟩
          obtain ⟨y, hyy⟩ : ∃ y, y = nthA yl k := ⟨_, rfl⟩
          rw [← hz] at c1 c2 c3
          rw [← hyy] at d1 d2 d3
          have HE : Hid (decide (xl = yl) = false) := decide_eq_false (fun h => he (by rw [h]))
          rw [← hz, ← hyy] at he
          obtain ⟨z1, z2, z3⟩ := z
          obtain ⟨y1, y2, y3⟩ := y
          clear hx hy hz hyy
          by_cases h1 : z1 = y1
          · subst h1
            by_cases h2 : z2 = y2
            · subst h2
              have h3 : ¬ z3.toList = y3.toList := fun h => he (by rw [str_inj h])
              clear he
              go_wp2
              try (go_quiet (fail))
              go_wp2
              go_ret
              exact ⟨by rw [HE.out]; rfl, _, World.drewN_drewN _ _ _⟩
            · clear he
              go_wp2
              try (go_quiet (fail))
              go_wp2
              go_ret
              exact ⟨by rw [HE.out]; rfl, _, World.drewN_drewN _ _ _⟩
          · clear he
            go_wp2
            try (go_quiet (fail))
            go_wp2
            go_ret
            exact ⟨by rw [HE.out]; rfl, _, World.drewN_drewN _ _ _⟩
      · go_wp2
        go_ret
        refine ⟨?_, q, rfl⟩
        obtain rfl : k = n := by omega
        show Ending.returned (.bool true) = _
        rw [decide_eq_true]
        exact (argsEq_iff _ _).2 ⟨by rw [HLX.out, HLY.out], fun j hj => HALL.out j (by rw [← HLX.out]; exact hj)⟩
  · have e1 : decide (xl = yl) = false := by
      rw [decide_eq_false]
      rintro rfl
      exact H (HLX.out.symm.trans HLY.out)
    rw [e1]
    have H2 : ¬ (n : Int) = (m : Int) := by omega
    go_enter Try.func46, Try.ntmps46
    go_wp2
    go_ret
    exact ⟨rfl, 0, rfl⟩

end Go.Proofs.Ytjckgnpbjekhbaa

/-
  sameInst of the package code tells whether two instructions are the same.
-/
namespace Go.Proofs.Ytjckgnpbjekhbaa
open Go.RowKit

set_option maxRecDepth 10000 in
set_option maxHeartbeats 1000000 in
theorem sameInst_any (x y : InstT) (ax ay : Option Addr) (n m cx cy : Nat) (w : World) (hx : ArgsV w ax x.2.2.2) (hy : ArgsV w ay y.2.2.2) (hlx : x.2.2.2.length = n) (hly : y.2.2.2.length = m) (hn : n ≤ 140737488351232) (hm : m ≤ 140737488351232) :
    Calls Try.prog 36 #[instV x ax n cx, instV y ay m cy] w fun e w' => e = .returned (.bool (decide (x = y))) ∧ Below w.heap.size w w' := by
  obtain ⟨xo, xt, xr, xl⟩ := x
  obtain ⟨yo, yt, yr, yl⟩ := y
  simp only at *
  have hF := fun (x : InstT) a n c w => frontOf_any x a n c w
  unfold instV at hF ⊢
  by_cases H : xo = yo ∧ xt = yt ∧ xr = yr
  · obtain ⟨rfl, rfl, rfl⟩ := H
    have e1 : decide ((xo, xt, xr, xl) = (xo, xt, xr, yl)) = decide (xl = yl) := by simp
    rw [e1]
    go_enter Try.func36, Try.ntmps36
    go_wp2_with fail
    have hB := two_boxes w (.cells #[.int .u16 xo, .int .u32 xt, .int .u32 xr, .slice ax n cx] 38) (.cells #[.int .u16 xo, .int .u32 xt, .int .u32 xr, .slice ay m cy] 38)
    have hs : w.heap.size + 2 = ((w.alloc (.cells #[.int .u16 xo, .int .u32 xt, .int .u32 xr, .slice ax n cx] 38)).alloc (.cells #[.int .u16 xo, .int .u32 xt, .int .u32 xr, .slice ay m cy] 38)).heap.size := by simp
    have hA := block_two w #[.int .u16 xo, .int .u32 xt, .int .u32 xr, .slice ax n cx] #[.int .u16 xo, .int .u32 xt, .int .u32 xr, .slice ay m cy] 38 38
    generalize ((w.alloc (.cells #[.int .u16 xo, .int .u32 xt, .int .u32 xr, .slice ax n cx] 38)).alloc (.cells #[.int .u16 xo, .int .u32 xt, .int .u32 xr, .slice ay m cy] 38)) = W at *
    have hx1 := hx.below hB
    have hy1 := hy.below hB
    have a0 := fun s : InC (Below W.heap.size W) => s.cell (p := ⟨w.heap.size, 0, none⟩) (by show w.heap.size < _; omega) (hA.1 0)
    have a1 := fun s : InC (Below W.heap.size W) => s.cell (p := ⟨w.heap.size, 1, none⟩) (by show w.heap.size < _; omega) (hA.1 1)
    have a2 := fun s : InC (Below W.heap.size W) => s.cell (p := ⟨w.heap.size, 2, none⟩) (by show w.heap.size < _; omega) (hA.1 2)
    have a3 := fun s : InC (Below W.heap.size W) => s.cell (p := ⟨w.heap.size, 3, none⟩) (by show w.heap.size < _; omega) (hA.1 3)
    have b0 := fun s : InC (Below W.heap.size W) => s.cell (p := ⟨w.heap.size + 1, 0, none⟩) (by show w.heap.size + 1 < _; omega) (hA.2 0)
    have b1 := fun s : InC (Below W.heap.size W) => s.cell (p := ⟨w.heap.size + 1, 1, none⟩) (by show w.heap.size + 1 < _; omega) (hA.2 1)
    have b2 := fun s : InC (Below W.heap.size W) => s.cell (p := ⟨w.heap.size + 1, 2, none⟩) (by show w.heap.size + 1 < _; omega) (hA.2 2)
    have b3 := fun s : InC (Below W.heap.size W) => s.cell (p := ⟨w.heap.size + 1, 3, none⟩) (by show w.heap.size + 1 < _; omega) (hA.2 3)
    have hG := fun (o t r : Int) (a : Option Addr) (n c : Nat) (s : InC (Below W.heap.size W)) => Calls.inC s (hF (o, t, r, []) a n c s.w)
    simp only at hG
    have hE := fun s : InC (Below W.heap.size W) => Calls.inC_drew s (argsEqual_any xl yl ax ay n m cx cy s.w (hx1.below s.ok) (hy1.below s.ok) hlx hly hn hm)
    clear hF hA hx hy hx1 hy1
    refine wp_region_class (C := Below W.heap.size W) (by kernel_rfl) (by kernel_rfl) (below_drew W) ?_
    have hne : Nonempty (InC (Below W.heap.size W)) := ⟨⟨W, Below.refl _ _⟩⟩
    repeat (go_big_quiet_step ((first | (go_at_call 45; exact hG _ _ _ _ _ _ _) | (go_at_call 46; exact hE _))))
    refine wpQuiet_nil ?_
    rintro _ ⟨s, rfl⟩
    have hfin := hB.trans (s.ok.mono (by omega))
    clear hne hG hE a0 a1 a2 a3 b0 b1 b2 b3
    go_wp2
    go_ret
    exact ⟨rfl, hfin⟩
  · have e1 : decide ((xo, xt, xr, xl) = (yo, yt, yr, yl)) = false := by
      rw [decide_eq_false]
      intro h
      simp only [Prod.mk.injEq] at h
      exact H ⟨h.1, h.2.1, h.2.2.1⟩
    rw [e1]
    have H2 : (¬ xo = yo) ∨ (xo = yo ∧ ¬ xt = yt) ∨ (xo = yo ∧ xt = yt ∧ ¬ xr = yr) := by
      by_cases h1 : xo = yo
      · by_cases h2 : xt = yt
        · exact .inr (.inr ⟨h1, h2, fun h3 => H ⟨h1, h2, h3⟩⟩)
        · exact .inr (.inl ⟨h1, h2⟩)
      · exact .inl h1
    clear H e1
    rcases H2 with h1 | ⟨rfl, h1⟩ | ⟨rfl, rfl, h1⟩
    · go_enter Try.func36, Try.ntmps36
      go_wp2_with fail
      have hB := two_boxes w (.cells #[.int .u16 xo, .int .u32 xt, .int .u32 xr, .slice ax n cx] 38) (.cells #[.int .u16 yo, .int .u32 yt, .int .u32 yr, .slice ay m cy] 38)
      have hs : w.heap.size + 2 = ((w.alloc (.cells #[.int .u16 xo, .int .u32 xt, .int .u32 xr, .slice ax n cx] 38)).alloc (.cells #[.int .u16 yo, .int .u32 yt, .int .u32 yr, .slice ay m cy] 38)).heap.size := by simp
      have hA := block_two w #[.int .u16 xo, .int .u32 xt, .int .u32 xr, .slice ax n cx] #[.int .u16 yo, .int .u32 yt, .int .u32 yr, .slice ay m cy] 38 38
      generalize ((w.alloc (.cells #[.int .u16 xo, .int .u32 xt, .int .u32 xr, .slice ax n cx] 38)).alloc (.cells #[.int .u16 yo, .int .u32 yt, .int .u32 yr, .slice ay m cy] 38)) = W at *
      have hx1 := hx.below hB
      have hy1 := hy.below hB
      have a0 := fun s : InC (Below W.heap.size W) => s.cell (p := ⟨w.heap.size, 0, none⟩) (by show w.heap.size < _; omega) (hA.1 0)
      have a1 := fun s : InC (Below W.heap.size W) => s.cell (p := ⟨w.heap.size, 1, none⟩) (by show w.heap.size < _; omega) (hA.1 1)
      have a2 := fun s : InC (Below W.heap.size W) => s.cell (p := ⟨w.heap.size, 2, none⟩) (by show w.heap.size < _; omega) (hA.1 2)
      have a3 := fun s : InC (Below W.heap.size W) => s.cell (p := ⟨w.heap.size, 3, none⟩) (by show w.heap.size < _; omega) (hA.1 3)
      have b0 := fun s : InC (Below W.heap.size W) => s.cell (p := ⟨w.heap.size + 1, 0, none⟩) (by show w.heap.size + 1 < _; omega) (hA.2 0)
      have b1 := fun s : InC (Below W.heap.size W) => s.cell (p := ⟨w.heap.size + 1, 1, none⟩) (by show w.heap.size + 1 < _; omega) (hA.2 1)
      have b2 := fun s : InC (Below W.heap.size W) => s.cell (p := ⟨w.heap.size + 1, 2, none⟩) (by show w.heap.size + 1 < _; omega) (hA.2 2)
      have b3 := fun s : InC (Below W.heap.size W) => s.cell (p := ⟨w.heap.size + 1, 3, none⟩) (by show w.heap.size + 1 < _; omega) (hA.2 3)
      have hG := fun (o t r : Int) (a : Option Addr) (n c : Nat) (s : InC (Below W.heap.size W)) => Calls.inC s (hF (o, t, r, []) a n c s.w)
      simp only at hG
      have hE := fun s : InC (Below W.heap.size W) => Calls.inC_drew s (argsEqual_any xl yl ax ay n m cx cy s.w (hx1.below s.ok) (hy1.below s.ok) hlx hly hn hm)
      clear hF hA hx hy hx1 hy1
      refine wp_region_class (C := Below W.heap.size W) (by kernel_rfl) (by kernel_rfl) (below_drew W) ?_
      have hne : Nonempty (InC (Below W.heap.size W)) := ⟨⟨W, Below.refl _ _⟩⟩
      repeat (go_big_quiet_step ((first | (go_at_call 45; exact hG _ _ _ _ _ _ _) | (go_at_call 46; exact hE _))))
      refine wpQuiet_nil ?_
      rintro _ ⟨s, rfl⟩
      have hfin := hB.trans (s.ok.mono (by omega))
      clear hne hG hE a0 a1 a2 a3 b0 b1 b2 b3
      go_wp2
      go_ret
      exact ⟨rfl, hfin⟩
    · go_enter Try.func36, Try.ntmps36
      go_wp2_with fail
      have hB := two_boxes w (.cells #[.int .u16 xo, .int .u32 xt, .int .u32 xr, .slice ax n cx] 38) (.cells #[.int .u16 xo, .int .u32 yt, .int .u32 yr, .slice ay m cy] 38)
      have hs : w.heap.size + 2 = ((w.alloc (.cells #[.int .u16 xo, .int .u32 xt, .int .u32 xr, .slice ax n cx] 38)).alloc (.cells #[.int .u16 xo, .int .u32 yt, .int .u32 yr, .slice ay m cy] 38)).heap.size := by simp
      have hA := block_two w #[.int .u16 xo, .int .u32 xt, .int .u32 xr, .slice ax n cx] #[.int .u16 xo, .int .u32 yt, .int .u32 yr, .slice ay m cy] 38 38
      generalize ((w.alloc (.cells #[.int .u16 xo, .int .u32 xt, .int .u32 xr, .slice ax n cx] 38)).alloc (.cells #[.int .u16 xo, .int .u32 yt, .int .u32 yr, .slice ay m cy] 38)) = W at *
      have hx1 := hx.below hB
      have hy1 := hy.below hB
      have a0 := fun s : InC (Below W.heap.size W) => s.cell (p := ⟨w.heap.size, 0, none⟩) (by show w.heap.size < _; omega) (hA.1 0)
      have a1 := fun s : InC (Below W.heap.size W) => s.cell (p := ⟨w.heap.size, 1, none⟩) (by show w.heap.size < _; omega) (hA.1 1)
      have a2 := fun s : InC (Below W.heap.size W) => s.cell (p := ⟨w.heap.size, 2, none⟩) (by show w.heap.size < _; omega) (hA.1 2)
      have a3 := fun s : InC (Below W.heap.size W) => s.cell (p := ⟨w.heap.size, 3, none⟩) (by show w.heap.size < _; omega) (hA.1 3)
      have b0 := fun s : InC (Below W.heap.size W) => s.cell (p := ⟨w.heap.size + 1, 0, none⟩) (by show w.heap.size + 1 < _; omega) (hA.2 0)
      have b1 := fun s : InC (Below W.heap.size W) => s.cell (p := ⟨w.heap.size + 1, 1, none⟩) (by show w.heap.size + 1 < _; omega) (hA.2 1)
      have b2 := fun s : InC (Below W.heap.size W) => s.cell (p := ⟨w.heap.size + 1, 2, none⟩) (by show w.heap.size + 1 < _; omega) (hA.2 2)
      have b3 := fun s : InC (Below W.heap.size W) => s.cell (p := ⟨w.heap.size + 1, 3, none⟩) (by show w.heap.size + 1 < _; omega) (hA.2 3)
      have hG := fun (o t r : Int) (a : Option Addr) (n c : Nat) (s : InC (Below W.heap.size W)) => Calls.inC s (hF (o, t, r, []) a n c s.w)
      simp only at hG
      have hE := fun s : InC (Below W.heap.size W) => Calls.inC_drew s (argsEqual_any xl yl ax ay n m cx cy s.w (hx1.below s.ok) (hy1.below s.ok) hlx hly hn hm)
      clear hF hA hx hy hx1 hy1
      refine wp_region_class (C := Below W.heap.size W) (by kernel_rfl) (by kernel_rfl) (below_drew W) ?_
      have hne : Nonempty (InC (Below W.heap.size W)) := ⟨⟨W, Below.refl _ _⟩⟩
      repeat (go_big_quiet_step ((first | (go_at_call 45; exact hG _ _ _ _ _ _ _) | (go_at_call 46; exact hE _))))
      refine wpQuiet_nil ?_
      rintro _ ⟨s, rfl⟩
      have hfin := hB.trans (s.ok.mono (by omega))
      clear hne hG hE a0 a1 a2 a3 b0 b1 b2 b3
      go_wp2
      go_ret
      exact ⟨rfl, hfin⟩
    · go_enter Try.func36, Try.ntmps36
      go_wp2_with fail
      have hB := two_boxes w (.cells #[.int .u16 xo, .int .u32 xt, .int .u32 xr, .slice ax n cx] 38) (.cells #[.int .u16 xo, .int .u32 xt, .int .u32 yr, .slice ay m cy] 38)
      have hs : w.heap.size + 2 = ((w.alloc (.cells #[.int .u16 xo, .int .u32 xt, .int .u32 xr, .slice ax n cx] 38)).alloc (.cells #[.int .u16 xo, .int .u32 xt, .int .u32 yr, .slice ay m cy] 38)).heap.size := by simp
      have hA := block_two w #[.int .u16 xo, .int .u32 xt, .int .u32 xr, .slice ax n cx] #[.int .u16 xo, .int .u32 xt, .int .u32 yr, .slice ay m cy] 38 38
      generalize ((w.alloc (.cells #[.int .u16 xo, .int .u32 xt, .int .u32 xr, .slice ax n cx] 38)).alloc (.cells #[.int .u16 xo, .int .u32 xt, .int .u32 yr, .slice ay m cy] 38)) = W at *
      have hx1 := hx.below hB
      have hy1 := hy.below hB
      have a0 := fun s : InC (Below W.heap.size W) => s.cell (p := ⟨w.heap.size, 0, none⟩) (by show w.heap.size < _; omega) (hA.1 0)
      have a1 := fun s : InC (Below W.heap.size W) => s.cell (p := ⟨w.heap.size, 1, none⟩) (by show w.heap.size < _; omega) (hA.1 1)
      have a2 := fun s : InC (Below W.heap.size W) => s.cell (p := ⟨w.heap.size, 2, none⟩) (by show w.heap.size < _; omega) (hA.1 2)
      have a3 := fun s : InC (Below W.heap.size W) => s.cell (p := ⟨w.heap.size, 3, none⟩) (by show w.heap.size < _; omega) (hA.1 3)
      have b0 := fun s : InC (Below W.heap.size W) => s.cell (p := ⟨w.heap.size + 1, 0, none⟩) (by show w.heap.size + 1 < _; omega) (hA.2 0)
      have b1 := fun s : InC (Below W.heap.size W) => s.cell (p := ⟨w.heap.size + 1, 1, none⟩) (by show w.heap.size + 1 < _; omega) (hA.2 1)
      have b2 := fun s : InC (Below W.heap.size W) => s.cell (p := ⟨w.heap.size + 1, 2, none⟩) (by show w.heap.size + 1 < _; omega) (hA.2 2)
      have b3 := fun s : InC (Below W.heap.size W) => s.cell (p := ⟨w.heap.size + 1, 3, none⟩) (by show w.heap.size + 1 < _; omega) (hA.2 3)
      have hG := fun (o t r : Int) (a : Option Addr) (n c : Nat) (s : InC (Below W.heap.size W)) => Calls.inC s (hF (o, t, r, []) a n c s.w)
      simp only at hG
      have hE := fun s : InC (Below W.heap.size W) => Calls.inC_drew s (argsEqual_any xl yl ax ay n m cx cy s.w (hx1.below s.ok) (hy1.below s.ok) hlx hly hn hm)
      clear hF hA hx hy hx1 hy1
      refine wp_region_class (C := Below W.heap.size W) (by kernel_rfl) (by kernel_rfl) (below_drew W) ?_
      have hne : Nonempty (InC (Below W.heap.size W)) := ⟨⟨W, Below.refl _ _⟩⟩
      repeat (go_big_quiet_step ((first | (go_at_call 45; exact hG _ _ _ _ _ _ _) | (go_at_call 46; exact hE _))))
      refine wpQuiet_nil ?_
      rintro _ ⟨s, rfl⟩
      have hfin := hB.trans (s.ok.mono (by omega))
      clear hne hG hE a0 a1 a2 a3 b0 b1 b2 b3
      go_wp2
      go_ret
      exact ⟨rfl, hfin⟩

end Go.Proofs.Ytjckgnpbjekhbaa

/-
  Same of the package code tells whether two modules are the same.
-/
namespace Go.Proofs.Ytjckgnpbjekhbaa
open Go.RowKit

set_option maxRecDepth 10000 in
set_option maxHeartbeats 1000000 in
theorem instsEqual_any (l m : List InstT) (ax ay : Option Addr) (nx ny cx cy : Nat) (w : World) (hx : InstsV w ax l) (hy : InstsV w ay m) (hlx : l.length = nx) (hly : m.length = ny) (hokx : InstsOk l) (hoky : InstsOk m) (hnx : nx ≤ 140737488351232) (hny : ny ≤ 140737488351232) (r : Bool) (hr : r = true ↔ l = m) :
    Calls Try.prog 35 #[.slice ax nx cx, .slice ay ny cy, .func (.func 36) #[] #[]] w fun e w' => e = .returned (.bool r) ∧ Below w.heap.size w w' := by
  have HR : Hid (r = true ↔ l = m) := hr
  have HLX : Hid (l.length = nx) := hlx
  have HLY : Hid (m.length = ny) := hly
  clear hlx hly hr
  by_cases H : nx = ny
  · subst H
    go_enter Try.func35, Try.ntmps35
    go_wp2
    go_loopw [17] (fun i wr => ∃ k : Nat, k ≤ nx ∧ i = .int .i64 k ∧ Below w.heap.size w wr ∧ ∀ j, j < k → nthI l j = nthI m j) (fun i _ => nx - (intOf i).toNat)
    case atStart => exact ⟨0, Nat.zero_le _, rfl, Below.refl _ _, fun j hj => by omega⟩
    case round =>
      obtain ⟨k, hk, rfl, hbr, hall⟩ := hrel
      have HALL : Hid (∀ j, j < k → nthI l j = nthI m j) := hall
      clear hall
      have hs2 := hbr.size
      by_cases hlt : k < nx
      · obtain ⟨b1, o1, p1, k1, n1, rfl, l1, c1, c2, c3, c4, c5, c6, _⟩ := hx k (by rw [HLX.out]; exact hlt)
        obtain ⟨b2, o2, p2, k2, n2, rfl, l2, d1, d2, d3, d4, d5, d6, _⟩ := hy k (by rw [HLY.out]; exact hlt)
        have hk0 : (0 : Int) ≤ (k : Int) := by omega
        have hki : (k : Int) < (nx : Int) := by omega
        have s1 := (hokx k (by rw [HLX.out]; exact hlt)).2.2.2.2.2.2.2
        have s2 := (hoky k (by rw [HLY.out]; exact hlt)).2.2.2.2.2.2.2
        rw [c5] at s1
        rw [d5] at s2
        have hC := fun wx (hb : Below w.heap.size w wx) => sameInst_any (nthI l k) (nthI m k) p1 p2 n1 n2 k1 k2 wx (c6.below hb) (d6.below hb) c5 d5 (by omega) (by omega)
        unfold instV at hC
        replace c1 := (hbr.cell (p := ⟨b1, o1 + k * 4, none⟩) l1).trans c1
        replace c2 := (hbr.cell (p := ⟨b1, o1 + k * 4 + 1, none⟩) l1).trans c2
        replace c3 := (hbr.cell (p := ⟨b1, o1 + k * 4 + 2, none⟩) l1).trans c3
        replace c4 := (hbr.cell (p := ⟨b1, o1 + k * 4 + 3, none⟩) l1).trans c4
        replace d1 := (hbr.cell (p := ⟨b2, o2 + k * 4, none⟩) l2).trans d1
        replace d2 := (hbr.cell (p := ⟨b2, o2 + k * 4 + 1, none⟩) l2).trans d2
        replace d3 := (hbr.cell (p := ⟨b2, o2 + k * 4 + 2, none⟩) l2).trans d3
        replace d4 := (hbr.cell (p := ⟨b2, o2 + k * 4 + 3, none⟩) l2).trans d4
        have l1' : b1 < wr.heap.size := by omega
        have l2' : b2 < wr.heap.size := by omega
        clear hx hy c5 c6 d5 d6 s1 s2
        by_cases he : nthI l k = nthI m k
        · have HE : Hid (nthI l k = nthI m k) := he
          rw [decide_eq_true he] at hC
          clear he
          go_wp2_with fail
          have hb2 := fun o p => hbr.trans ((two_boxes wr o p).mono hs2)
          refine (hC _ (hb2 _ _)).mono ?_
          rintro e w' ⟨rfl, hb'⟩
          have hbC := (hb2 _ _).trans (hb'.mono (by simp; omega))
          clear hb' hb2 hC
          go_wp2
          go_roundw
          case rel => exact ⟨k + 1, by omega, by go_num, hbC, fun j hj => by
            by_cases hjk : j < k
            · exact HALL.out j hjk
            · obtain rfl : j = k := by omega
              exact HE.out⟩
          case measure => simp [intOf]; omega
        · have HE : Hid (r = false) := by
            show r = false
            rw [← Bool.not_eq_true]
            intro hr
            exact he (by rw [HR.out.1 hr])
          rw [decide_eq_false he] at hC
          clear he
          go_wp2_with fail
          have hb2 := fun o p => hbr.trans ((two_boxes wr o p).mono hs2)
          refine (hC _ (hb2 _ _)).mono ?_
          rintro e w' ⟨rfl, hb'⟩
          have hbC := (hb2 _ _).trans (hb'.mono (by simp; omega))
          clear hb' hb2 hC
          go_wp2
          go_ret
          exact ⟨by rw [HE.out]; rfl, hbC⟩
      · go_wp2
        go_ret
        refine ⟨?_, hbr⟩
        obtain rfl : k = nx := by omega
        show Ending.returned (.bool true) = _
        rw [HR.out.2 ((instsEq_iff _ _).2 ⟨by rw [HLX.out, HLY.out], fun j hj => HALL.out j (by rw [← HLX.out]; exact hj)⟩)]
  · have e1 : r = false := by
      rw [← Bool.not_eq_true]
      intro hr
      have := HR.out.1 hr
      subst this
      exact H (HLX.out.symm.trans HLY.out)
    subst e1
    have H2 : ¬ (nx : Int) = (ny : Int) := by omega
    go_enter Try.func35, Try.ntmps35
    go_wp2
    go_ret
    exact ⟨rfl, Below.refl _ _⟩

set_option maxRecDepth 10000 in
set_option maxHeartbeats 1000000 in
theorem same_any (g1 b1 g2 b2 : Int) (l m : List InstT) (ax ay : Option Addr) (nx ny cx cy : Nat) (w : World) (hx : InstsV w ax l) (hy : InstsV w ay m) (hlx : l.length = nx) (hly : m.length = ny) (hokx : InstsOk l) (hoky : InstsOk m) (hnx : nx ≤ 140737488351232) (hny : ny ≤ 140737488351232) (r : Bool) (hr : r = true ↔ (g1 = g2 ∧ b1 = b2 ∧ l = m)) :
    Calls Try.prog 18 #[modV g1 b1 ax nx cx, modV g2 b2 ay ny cy] w fun e w' => e = .returned (.bool r) ∧ Below w.heap.size w w' := by
  have hF := fun g b a n c w => headOf_any g b a n c w
  unfold modV at hF ⊢
  by_cases H : g1 = g2 ∧ b1 = b2
  · obtain ⟨rfl, rfl⟩ := H
    have hr' : r = true ↔ l = m := by simpa using hr
    go_enter Try.func18, Try.ntmps18
    go_wp2_with fail
    have hB := two_boxes w (.cells #[.int .u32 g1, .int .u32 b1, .slice ax nx cx] 25) (.cells #[.int .u32 g1, .int .u32 b1, .slice ay ny cy] 25)
    have hs : w.heap.size + 2 = ((w.alloc (.cells #[.int .u32 g1, .int .u32 b1, .slice ax nx cx] 25)).alloc (.cells #[.int .u32 g1, .int .u32 b1, .slice ay ny cy] 25)).heap.size := by simp
    have hA := block_two w #[.int .u32 g1, .int .u32 b1, .slice ax nx cx] #[.int .u32 g1, .int .u32 b1, .slice ay ny cy] 25 25
    generalize ((w.alloc (.cells #[.int .u32 g1, .int .u32 b1, .slice ax nx cx] 25)).alloc (.cells #[.int .u32 g1, .int .u32 b1, .slice ay ny cy] 25)) = W at *
    have hx1 := hx.below hB
    have hy1 := hy.below hB
    have a0 := fun s : InC (Below W.heap.size W) => s.cell (p := ⟨w.heap.size, 0, none⟩) (by show w.heap.size < _; omega) (hA.1 0)
    have a1 := fun s : InC (Below W.heap.size W) => s.cell (p := ⟨w.heap.size, 1, none⟩) (by show w.heap.size < _; omega) (hA.1 1)
    have a2 := fun s : InC (Below W.heap.size W) => s.cell (p := ⟨w.heap.size, 2, none⟩) (by show w.heap.size < _; omega) (hA.1 2)
    have e0 := fun s : InC (Below W.heap.size W) => s.cell (p := ⟨w.heap.size + 1, 0, none⟩) (by show w.heap.size + 1 < _; omega) (hA.2 0)
    have e1 := fun s : InC (Below W.heap.size W) => s.cell (p := ⟨w.heap.size + 1, 1, none⟩) (by show w.heap.size + 1 < _; omega) (hA.2 1)
    have e2 := fun s : InC (Below W.heap.size W) => s.cell (p := ⟨w.heap.size + 1, 2, none⟩) (by show w.heap.size + 1 < _; omega) (hA.2 2)
    have hG := fun (g b : Int) (a : Option Addr) (n c : Nat) (s : InC (Below W.heap.size W)) => Calls.inC s (hF g b a n c s.w)
    have hE := fun s : InC (Below W.heap.size W) => Calls.inC s (instsEqual_any l m ax ay nx ny cx cy s.w (hx1.below s.ok) (hy1.below s.ok) hlx hly hokx hoky hnx hny r hr')
    clear hF hA hx hy hx1 hy1
    refine wp_region_class (C := Below W.heap.size W) (by kernel_rfl) (by kernel_rfl) (below_drew W) ?_
    have hne : Nonempty (InC (Below W.heap.size W)) := ⟨⟨W, Below.refl _ _⟩⟩
    repeat (go_big_quiet_step ((first | (go_at_call 34; exact hG _ _ _ _ _ _) | (go_at_call 35; exact hE _))))
    refine wpQuiet_nil ?_
    rintro _ ⟨s, rfl⟩
    have hfin := hB.trans (s.ok.mono (by omega))
    clear hne hG hE a0 a1 a2 e0 e1 e2
    go_wp2
    go_ret
    exact ⟨rfl, hfin⟩
  · have e1 : r = false := by
      rw [← Bool.not_eq_true]
      intro h
      obtain ⟨h1, h2, _⟩ := hr.1 h
      exact H ⟨h1, h2⟩
    subst e1
    have H2 : (¬ g1 = g2) ∨ (g1 = g2 ∧ ¬ b1 = b2) := by
      by_cases h1 : g1 = g2
      · exact .inr ⟨h1, fun h2 => H ⟨h1, h2⟩⟩
      · exact .inl h1
    clear H hr
    rcases H2 with h1 | ⟨rfl, h1⟩
    · go_enter Try.func18, Try.ntmps18
      go_wp2_with fail
      have hB := two_boxes w (.cells #[.int .u32 g1, .int .u32 b1, .slice ax nx cx] 25) (.cells #[.int .u32 g2, .int .u32 b2, .slice ay ny cy] 25)
      have hs : w.heap.size + 2 = ((w.alloc (.cells #[.int .u32 g1, .int .u32 b1, .slice ax nx cx] 25)).alloc (.cells #[.int .u32 g2, .int .u32 b2, .slice ay ny cy] 25)).heap.size := by simp
      have hA := block_two w #[.int .u32 g1, .int .u32 b1, .slice ax nx cx] #[.int .u32 g2, .int .u32 b2, .slice ay ny cy] 25 25
      generalize ((w.alloc (.cells #[.int .u32 g1, .int .u32 b1, .slice ax nx cx] 25)).alloc (.cells #[.int .u32 g2, .int .u32 b2, .slice ay ny cy] 25)) = W at *
      have hx1 := hx.below hB
      have hy1 := hy.below hB
      have a0 := fun s : InC (Below W.heap.size W) => s.cell (p := ⟨w.heap.size, 0, none⟩) (by show w.heap.size < _; omega) (hA.1 0)
      have a1 := fun s : InC (Below W.heap.size W) => s.cell (p := ⟨w.heap.size, 1, none⟩) (by show w.heap.size < _; omega) (hA.1 1)
      have a2 := fun s : InC (Below W.heap.size W) => s.cell (p := ⟨w.heap.size, 2, none⟩) (by show w.heap.size < _; omega) (hA.1 2)
      have e0 := fun s : InC (Below W.heap.size W) => s.cell (p := ⟨w.heap.size + 1, 0, none⟩) (by show w.heap.size + 1 < _; omega) (hA.2 0)
      have e1 := fun s : InC (Below W.heap.size W) => s.cell (p := ⟨w.heap.size + 1, 1, none⟩) (by show w.heap.size + 1 < _; omega) (hA.2 1)
      have e2 := fun s : InC (Below W.heap.size W) => s.cell (p := ⟨w.heap.size + 1, 2, none⟩) (by show w.heap.size + 1 < _; omega) (hA.2 2)
      have hG := fun (g b : Int) (a : Option Addr) (n c : Nat) (s : InC (Below W.heap.size W)) => Calls.inC s (hF g b a n c s.w)
      clear hF hA hx hy hx1 hy1
      refine wp_region_class (C := Below W.heap.size W) (by kernel_rfl) (by kernel_rfl) (below_drew W) ?_
      have hne : Nonempty (InC (Below W.heap.size W)) := ⟨⟨W, Below.refl _ _⟩⟩
      repeat (go_big_quiet_step ((first | (go_at_call 34; exact hG _ _ _ _ _ _))))
      refine wpQuiet_nil ?_
      rintro _ ⟨s, rfl⟩
      have hfin := hB.trans (s.ok.mono (by omega))
      clear hne hG a0 a1 a2 e0 e1 e2
      go_wp2
      go_ret
      exact ⟨rfl, hfin⟩
    · go_enter Try.func18, Try.ntmps18
      go_wp2_with fail
      have hB := two_boxes w (.cells #[.int .u32 g1, .int .u32 b1, .slice ax nx cx] 25) (.cells #[.int .u32 g1, .int .u32 b2, .slice ay ny cy] 25)
      have hs : w.heap.size + 2 = ((w.alloc (.cells #[.int .u32 g1, .int .u32 b1, .slice ax nx cx] 25)).alloc (.cells #[.int .u32 g1, .int .u32 b2, .slice ay ny cy] 25)).heap.size := by simp
      have hA := block_two w #[.int .u32 g1, .int .u32 b1, .slice ax nx cx] #[.int .u32 g1, .int .u32 b2, .slice ay ny cy] 25 25
      generalize ((w.alloc (.cells #[.int .u32 g1, .int .u32 b1, .slice ax nx cx] 25)).alloc (.cells #[.int .u32 g1, .int .u32 b2, .slice ay ny cy] 25)) = W at *
      have hx1 := hx.below hB
      have hy1 := hy.below hB
      have a0 := fun s : InC (Below W.heap.size W) => s.cell (p := ⟨w.heap.size, 0, none⟩) (by show w.heap.size < _; omega) (hA.1 0)
      have a1 := fun s : InC (Below W.heap.size W) => s.cell (p := ⟨w.heap.size, 1, none⟩) (by show w.heap.size < _; omega) (hA.1 1)
      have a2 := fun s : InC (Below W.heap.size W) => s.cell (p := ⟨w.heap.size, 2, none⟩) (by show w.heap.size < _; omega) (hA.1 2)
      have e0 := fun s : InC (Below W.heap.size W) => s.cell (p := ⟨w.heap.size + 1, 0, none⟩) (by show w.heap.size + 1 < _; omega) (hA.2 0)
      have e1 := fun s : InC (Below W.heap.size W) => s.cell (p := ⟨w.heap.size + 1, 1, none⟩) (by show w.heap.size + 1 < _; omega) (hA.2 1)
      have e2 := fun s : InC (Below W.heap.size W) => s.cell (p := ⟨w.heap.size + 1, 2, none⟩) (by show w.heap.size + 1 < _; omega) (hA.2 2)
      have hG := fun (g b : Int) (a : Option Addr) (n c : Nat) (s : InC (Below W.heap.size W)) => Calls.inC s (hF g b a n c s.w)
      clear hF hA hx hy hx1 hy1
      refine wp_region_class (C := Below W.heap.size W) (by kernel_rfl) (by kernel_rfl) (below_drew W) ?_
      have hne : Nonempty (InC (Below W.heap.size W)) := ⟨⟨W, Below.refl _ _⟩⟩
      repeat (go_big_quiet_step ((first | (go_at_call 34; exact hG _ _ _ _ _ _))))
      refine wpQuiet_nil ?_
      rintro _ ⟨s, rfl⟩
      have hfin := hB.trans (s.ok.mono (by omega))
      clear hne hG a0 a1 a2 e0 e1 e2
      go_wp2
      go_ret
      exact ⟨rfl, hfin⟩

end Go.Proofs.Ytjckgnpbjekhbaa

/-
  CopyInst of the kit answers the instruction in new memory: a row of its own.
-/
namespace Go.Proofs.Ytjckgnpbjekhbaa
open Go.RowKit

end Go.Proofs.Ytjckgnpbjekhbaa

/-
  CopyModule of the kit answers the module in new memory: rows of its own.
-/
namespace Go.Proofs.Ytjckgnpbjekhbaa
open Go.RowKit

/-- The first k instructions lie in the row at g, their arguments in later blocks. -/
structure PartO (w : World) (g n k : Nat) (l : List InstT) : Prop where
  row : ∃ cs : Array Value, w.heap[g]? = some (.cells cs 38 (0, 0)) ∧ cs.size = n * 4
  each : ∀ j, j < k → ∃ gj nj, w.cell? ⟨g, j * 4, none⟩ = some (.int .u16 (nthI l j).1) ∧ w.cell? ⟨g, j * 4 + 1, none⟩ = some (.int .u32 (nthI l j).2.1) ∧ w.cell? ⟨g, j * 4 + 2, none⟩ = some (.int .u32 (nthI l j).2.2.1) ∧ w.cell? ⟨g, j * 4 + 3, none⟩ = some (.slice (some ⟨gj, 0, none⟩) nj nj) ∧
    (nthI l j).2.2.2.length = nj ∧ ArgsV w (some ⟨gj, 0, none⟩) (nthI l j).2.2.2 ∧ g < gj ∧ ∃ cs : Array Value, w.heap[gj]? = some (.cells cs 55 (0, 0)) ∧ cs.size = nj * 3

theorem PartO.below {w w' : World} {g n k : Nat} {l : List InstT} (h : PartO w g n k l) (hb : Below w.heap.size w w') : PartO w' g n k l := by
  obtain ⟨⟨cs, h1, h2⟩, h3⟩ := h
  have hg : g < w.heap.size := (Array.getElem?_eq_some_iff.1 h1).1
  refine ⟨⟨cs, by rw [hb.block g hg]; exact h1, h2⟩, fun j hj => ?_⟩
  obtain ⟨gj, nj, c1, c2, c3, c4, c5, c6, c7, cs8, k1, k2⟩ := h3 j hj
  exact ⟨gj, nj, (hb.cell (p := ⟨g, j * 4, none⟩) hg).trans c1, (hb.cell (p := ⟨g, j * 4 + 1, none⟩) hg).trans c2, (hb.cell (p := ⟨g, j * 4 + 2, none⟩) hg).trans c3, (hb.cell (p := ⟨g, j * 4 + 3, none⟩) hg).trans c4, c5, c6.below hb, c7, cs8, (hb.block gj (Array.getElem?_eq_some_iff.1 k1).1).trans k1, k2⟩

/-- An instruction is stored. -/
theorem PartO.store {w : World} {g n k : Nat} {l : List InstT} (h : PartO w g n k l) (hk : k < n) (gk nk : Nat) (hl : (nthI l k).2.2.2.length = nk) (hv : ArgsV w (some ⟨gk, 0, none⟩) (nthI l k).2.2.2) (hg : g < gk) (h8 : ∃ cs : Array Value, w.heap[gk]? = some (.cells cs 55 (0, 0)) ∧ cs.size = nk * 3) :
    PartO ((((w.setCell ⟨g, k * 4, none⟩ (.int .u16 (nthI l k).1)).setCell ⟨g, k * 4 + 1, none⟩ (.int .u32 (nthI l k).2.1)).setCell ⟨g, k * 4 + 2, none⟩ (.int .u32 (nthI l k).2.2.1)).setCell ⟨g, k * 4 + 3, none⟩ (.slice (some ⟨gk, 0, none⟩) nk nk)) g n (k + 1) l := by
  obtain ⟨⟨cs, h1, h2⟩, h3⟩ := h
  obtain ⟨W, hW⟩ : ∃ W, W = (((w.setCell ⟨g, k * 4, none⟩ (.int .u16 (nthI l k).1)).setCell ⟨g, k * 4 + 1, none⟩ (.int .u32 (nthI l k).2.1)).setCell ⟨g, k * 4 + 2, none⟩ (.int .u32 (nthI l k).2.2.1)).setCell ⟨g, k * 4 + 3, none⟩ (.slice (some ⟨gk, 0, none⟩) nk nk) := ⟨_, rfl⟩
  have hb : W.heap[g]? = some (.cells ((((cs.setIfInBounds (k * 4) (.int .u16 (nthI l k).1)).setIfInBounds (k * 4 + 1) (.int .u32 (nthI l k).2.1)).setIfInBounds (k * 4 + 2) (.int .u32 (nthI l k).2.2.1)).setIfInBounds (k * 4 + 3) (.slice (some ⟨gk, 0, none⟩) nk nk)) 38 (0, 0)) := by
    rw [hW]; simp [World.setCell, Array.getElem?_modify, h1]
  have cell : ∀ j, W.cell? ⟨g, j, none⟩ = ((((cs.setIfInBounds (k * 4) (.int .u16 (nthI l k).1)).setIfInBounds (k * 4 + 1) (.int .u32 (nthI l k).2.1)).setIfInBounds (k * 4 + 2) (.int .u32 (nthI l k).2.2.1)).setIfInBounds (k * 4 + 3) (.slice (some ⟨gk, 0, none⟩) nk nk))[j]? := fun j => by
    simp [World.cell?, hb]
  have old : ∀ j, w.cell? ⟨g, j, none⟩ = cs[j]? := fun j => by simp [World.cell?, h1]
  have far : ∀ gj m, g < gj → ArgsV w (some ⟨gj, 0, none⟩) m → ArgsV W (some ⟨gj, 0, none⟩) m := fun gj m hlt hm => by
    rw [hW]
    exact args_far (args_far (args_far (args_far hm (by omega) _ _) (by omega) _ _) (by omega) _ _) (by omega) _ _
  have far8 : ∀ gj m, g < gj → (∃ cs : Array Value, w.heap[gj]? = some (.cells cs 55 (0, 0)) ∧ cs.size = m * 3) → ∃ cs : Array Value, W.heap[gj]? = some (.cells cs 55 (0, 0)) ∧ cs.size = m * 3 := fun gj m hlt h => by
    obtain ⟨cs8, k1, k2⟩ := h
    rw [hW]
    exact ⟨cs8, setFar1 (setFar1 (setFar1 (setFar1 k1 (by omega) _ _) (by omega) _ _) (by omega) _ _) (by omega) _ _, k2⟩
  rw [← hW]
  refine ⟨⟨_, hb, by simp [h2]⟩, fun j hj => ?_⟩
  by_cases hjk : j < k
  · obtain ⟨gj, nj, c1, c2, c3, c4, c5, c6, c7, c8⟩ := h3 j hjk
    rw [old] at c1 c2 c3 c4
    refine ⟨gj, nj, ?_, ?_, ?_, ?_, c5, far _ _ c7 c6, c7, far8 _ _ c7 c8⟩
    all_goals rw [cell, Array.getElem?_setIfInBounds_ne (by omega), Array.getElem?_setIfInBounds_ne (by omega), Array.getElem?_setIfInBounds_ne (by omega), Array.getElem?_setIfInBounds_ne (by omega)]
    · exact c1
    · exact c2
    · exact c3
    · exact c4
  · obtain rfl : j = k := by omega
    refine ⟨gk, nk, ?_, ?_, ?_, ?_, hl, far _ _ hg hv, hg, far8 _ _ hg h8⟩
    · rw [cell, Array.getElem?_setIfInBounds_ne (by omega), Array.getElem?_setIfInBounds_ne (by omega), Array.getElem?_setIfInBounds_ne (by omega), Array.getElem?_setIfInBounds_self_of_lt (by omega)]
    · rw [cell, Array.getElem?_setIfInBounds_ne (by omega), Array.getElem?_setIfInBounds_ne (by omega), Array.getElem?_setIfInBounds_self_of_lt (by simp; omega)]
    · rw [cell, Array.getElem?_setIfInBounds_ne (by omega), Array.getElem?_setIfInBounds_self_of_lt (by simp; omega)]
    · rw [cell, Array.getElem?_setIfInBounds_self_of_lt (by simp; omega)]

theorem PartO.view {w : World} {g n : Nat} {l : List InstT} (h : PartO w g n n l) (hl : l.length = n) : InstsV w (some ⟨g, 0, none⟩) l := by
  intro j hj
  obtain ⟨gj, nj, c1, c2, c3, c4, c5, c6, c7, _⟩ := h.each j (by omega)
  exact ⟨g, 0, some ⟨gj, 0, none⟩, nj, nj, rfl, World.block_lt_of_cell? _ _ c1, by rw [Nat.zero_add]; exact c1, by rw [Nat.zero_add]; exact c2, by rw [Nat.zero_add]; exact c3, by rw [Nat.zero_add]; exact c4, c5, c6, Nat.le_refl _⟩

theorem PartO.far {w : World} {g n k : Nat} {l : List InstT} (h : PartO w g n k l) {b : Nat} (hb : b < g) (i : Nat) (v : Value) : PartO (w.setCell ⟨b, i, none⟩ v) g n k l := by
  obtain ⟨⟨cs, h1, h2⟩, h3⟩ := h
  have hx : (w.setCell ⟨b, i, none⟩ v).heap[g]? = w.heap[g]? := Below.heap_setCell _ _ _ _ (by simp; omega)
  have hc : ∀ j, (w.setCell ⟨b, i, none⟩ v).cell? ⟨g, j, none⟩ = w.cell? ⟨g, j, none⟩ := fun j => by simp only [World.cell?, hx]
  refine ⟨⟨cs, by rw [hx]; exact h1, h2⟩, fun j hj => ?_⟩
  obtain ⟨gj, nj, c1, c2, c3, c4, c5, c6, c7, cs8, k1, k2⟩ := h3 j hj
  exact ⟨gj, nj, by rw [hc]; exact c1, by rw [hc]; exact c2, by rw [hc]; exact c3, by rw [hc]; exact c4, c5, args_far c6 (by omega) _ _, c7, cs8, setFar1 k1 (by omega) _ _, k2⟩

end Go.Proofs.Ytjckgnpbjekhbaa
