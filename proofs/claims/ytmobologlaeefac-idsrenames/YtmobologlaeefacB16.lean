/-
  Texts laid together in one: Ref09Turned, RowW, Draw, DrawAppend, DrawLies, DrawE.
-/
import Derived.WalkSpells
import Derived.WalkMore
import Derived.BigRegion
import Derived.Deep.RegionWith
import Derived.Laws.AppendOwn
import Derived.Test.YtmobologlaeefacProg
import Derived.Test.YtmobologlaeefacB13
import Derived.Test.YtmobologlaeefacB15
import Derived.Test.YtmobologlaeefacB12
import Derived.Test.YtmobologlaeefacB07
import Derived.Test.YtmobologlaeefacB01
import Derived.OrdersIn
import Derived.RangeFuncNested
import Derived.Deep.AppendLies
/-
  The document's Turned: an instruction with other ids, by a list of numbers, its arguments in new memory.
-/
namespace Go.Proofs.Ytmobologlaeefac
open Go.RowKit
set_option linter.unusedVariables false
set_option linter.unusedSimpArgs false
set_option maxRecDepth 10000

theorem turn_push (f : Int → Int) (l : List ArgT) (k : Nat) (hk : k < l.length) : ((l.take (k + 1)).map (tA f)).flatMap argC = ((l.take k).map (tA f)).flatMap argC ++ argC (tA f (nthA l k)) := by
  have : nthA l k = l[k] := by simp [nthA, List.getD, hk]
  rw [List.take_add_one, List.getElem?_eq_getElem hk, this, List.map_append, List.flatMap_append]
  simp

theorem three_set1 {W : World} {b T : Nat} {x0 x1 x2 : Value} (h : W.heap[b]? = some (.cells #[x0, x1, x2] T (0, 0))) (u : Value) : (W.setCell ⟨b, 1, none⟩ u).heap[b]? = some (.cells #[x0, u, x2] T (0, 0)) := by simp [World.setCell, Array.getElem?_modify, h]

/-- While an instruction is turned: its box, the answer's, the new one's, and the arguments so far. -/
structure TurB (w : World) (xo xt xr : Int) (ax : Option Addr) (nx cx : Nat) (yt yr : Int) (v : Value) (k : Nat) (cs : List Value) (W : World) : Prop where
  ibox : W.heap[w.heap.size]? = some (.cells #[.int .u16 xo, .int .u32 xt, .int .u32 xr, .slice ax nx cx] 51 (0, 0))
  rbox : W.heap[w.heap.size + 1]? = some (.cells #[.int .u16 0, .int .u32 0, .int .u32 0, .slice none 0 0] 51 (0, 0))
  xbox : W.heap[w.heap.size + 2]? = some (.cells #[.int .u16 xo, .int .u32 yt, .int .u32 yr, v] 51 (0, 0))
  own : W.ownsRow (w.heap.size + 3) 63 3 v k cs
  bel : Below w.heap.size w W
theorem TurB.size {w W : World} {xo xt xr : Int} {ax : Option Addr} {nx cx : Nat} {yt yr : Int} {v : Value} {k : Nat} {cs : List Value} (h : TurB w xo xt xr ax nx cx yt yr v k cs W) : w.heap.size + 2 < W.heap.size := (Array.getElem?_eq_some_iff.1 h.xbox).1
theorem TurB.below {w W W' : World} {xo xt xr : Int} {ax : Option Addr} {nx cx : Nat} {yt yr : Int} {v : Value} {k : Nat} {cs : List Value} (h : TurB w xo xt xr ax nx cx yt yr v k cs W) (hb : Below W.heap.size W W') : TurB w xo xt xr ax nx cx yt yr v k cs W' := by
  have s := h.size
  exact ⟨(hb.block _ (by omega)).trans h.ibox, (hb.block _ (by omega)).trans h.rbox, (hb.block _ s).trans h.xbox, own_below h.own hb, h.bel.trans (hb.mono h.bel.size)⟩
theorem TurB.push {w W W' : World} {xo xt xr : Int} {ax : Option Addr} {nx cx : Nat} {yt yr : Int} {v v' : Value} {k : Nat} {cs cs' : List Value} (h : TurB w xo xt xr ax nx cx yt yr v k cs W) (hg : W.grownBy W' v.ownBlock) (ho : W'.ownsRow (w.heap.size + 3) 63 3 v' (k + 1) cs') :
    TurB w xo xt xr ax nx cx yt yr v' (k + 1) cs' (W'.setCell ⟨w.heap.size + 2, 3, none⟩ v') ∧ W'.cell? ⟨w.heap.size + 2, 3, none⟩ = some v ∧ W'.frozen? ⟨w.heap.size + 2, 3, none⟩ = false := by
  have s := h.size
  have hlo : ∀ g, v.ownBlock = some g → w.heap.size + 3 ≤ g := fun g e => (h.own.lt g e).1
  have kk : ∀ i, i < w.heap.size + 3 → W'.heap[i]? = W.heap[i]? := fun i hi => hg.block i (by omega) (fun e => by have := hlo _ e.symm; omega)
  have hx := (kk (w.heap.size + 2) (by omega)).trans h.xbox
  refine ⟨⟨setFarT ((kk _ (by omega)).trans h.ibox) (by omega) _ _, setFarT ((kk _ (by omega)).trans h.rbox) (by omega) _ _, by simp [World.setCell, Array.getElem?_modify, hx], ownsRow_setCell_below ho (by simp) _, ?_⟩, (one_block hx).1 3, (one_block hx).2 3⟩
  exact (h.bel.grown hg h.bel.size (fun g e => by have := hlo g e; omega)).setCell (by simp) _

set_option maxHeartbeats 8000000 in
theorem refTurned9_any (zs : List Int) (ta : Option Addr) (tn tc : Nat) (xo xt xr : Int) (xl : List ArgT) (ax : Option Addr) (nx cx : Nat) (w : World) (hv : ArgsV w ax xl) (hl : xl.length = nx) (hn : 24 * nx ≤ 140737488351232) (tv : View .u32 w ta zs) (tl : zs.length = tn)
    (t0 : 0 ≤ xt) (t1 : xt < tn) (r0 : 0 ≤ xr) (r1 : xr < tn) (pa : ∀ k, k < nx → (nthA xl k).1 = 1 → 0 ≤ (nthA xl k).2.1 ∧ (nthA xl k).2.1 < tn) :
    Calls Try.prog 53 #[.agg #[.int .u16 xo, .int .u32 xt, .int .u32 xr, .slice ax nx cx], .slice ta tn tc] w fun e w' => ∃ a c, e = .returned (.agg #[.int .u16 xo, .int .u32 (fW zs xt), .int .u32 (fW zs xr), .slice a nx c]) ∧ w'.ownsRow (w.heap.size + 3) 63 3 (.slice a nx c) nx ((xl.map (tA (fW zs))).flatMap argC) ∧ Below w.heap.size w w' := by
  obtain ⟨i0, hi, hz0, hz1, hz2⟩ := info_parts CloneA.info
  have HI : Hid (Try.prog.info? 63 = some i0 ∧ i0.zero = some (.agg #[.int .u8 0, .int .u32 0, .string ⟨#[]⟩]) ∧ i0.size = 3 ∧ i0.bytes = 24) := ⟨hi, hz0, hz1, hz2⟩
  obtain ⟨p, rfl⟩ : ∃ p : Nat, xt = (p : Int) := ⟨xt.toNat, by omega⟩
  obtain ⟨q, rfl⟩ : ∃ q : Nat, xr = (q : Int) := ⟨xr.toNat, by omega⟩
  rw [fW_nat, fW_nat]
  have hb0 : Below w.heap.size w ((w.alloc (.cells #[.int .u16 xo, .int .u32 (p : Int), .int .u32 (q : Int), .slice ax nx cx] 51)).alloc (.cells #[.int .u16 0, .int .u32 0, .int .u32 0, .slice none 0 0] 51)) := ((Below.refl _ w).alloc (Nat.le_refl _) _).alloc (by simp) _
  have k0 : ((w.alloc (.cells #[.int .u16 xo, .int .u32 (p : Int), .int .u32 (q : Int), .slice ax nx cx] 51)).alloc (.cells #[.int .u16 0, .int .u32 0, .int .u32 0, .slice none 0 0] 51)).heap[w.heap.size]? = some (.cells #[.int .u16 xo, .int .u32 (p : Int), .int .u32 (q : Int), .slice ax nx cx] 51 (0, 0)) := by rw [Below.heap_alloc _ _ _ (by simp)]; exact heap_alloc_new _ _
  have k1 : ((w.alloc (.cells #[.int .u16 xo, .int .u32 (p : Int), .int .u32 (q : Int), .slice ax nx cx] 51)).alloc (.cells #[.int .u16 0, .int .u32 0, .int .u32 0, .slice none 0 0] 51)).heap[w.heap.size + 1]? = some (.cells #[.int .u16 0, .int .u32 0, .int .u32 0, .slice none 0 0] 51 (0, 0)) := by have := heap_alloc_new (w.alloc (.cells #[.int .u16 xo, .int .u32 (p : Int), .int .u32 (q : Int), .slice ax nx cx] 51)) (.cells #[.int .u16 0, .int .u32 0, .int .u32 0, .slice none 0 0] 51); simpa using this
  have HZ : Hid (((w.alloc (.cells #[.int .u16 xo, .int .u32 (p : Int), .int .u32 (q : Int), .slice ax nx cx] 51)).alloc (.cells #[.int .u16 0, .int .u32 0, .int .u32 0, .slice none 0 0] 51)).heap.size = w.heap.size + 2) := by show _ = _; simp
  have HK := hide (And.intro k0 k1)
  have HB0 := hide hb0
  have HV := hide hv
  have HTV := hide tv
  have HTL := hide tl
  have HL := hide hl
  have HN : Hid (24 * nx ≤ 140737488351232) := hn
  have HPA := hide pa
  have hp : p < tn := by omega
  have hq : q < tn := by omega
  have HTP : Hid (∀ k, k < nx → ((xl.take (k + 1)).map (tA (fW zs))).flatMap argC = ((xl.take k).map (tA (fW zs))).flatMap argC ++ argC (tA (fW zs) (nthA xl k))) := fun k hk => turn_push _ xl k (by omega)
  have HAL : Hid (xl.take nx = xl) := List.take_of_length_le (by omega)
  clear hi hz0 hz1 hz2 hb0 k0 k1 hv tv hl hn pa tl t0 r0
  go_enter Try.func53, Try.ntmps53
  go_wp2_with fail
  generalize (w.alloc (.cells #[.int .u16 xo, .int .u32 (p : Int), .int .u32 (q : Int), .slice ax nx cx] 51)).alloc (.cells #[.int .u16 0, .int .u32 0, .int .u32 0, .slice none 0 0] 51) = W0 at *
  obtain ⟨bt, ot, rfl, hbt, cp⟩ := HTV.out.below HB0.out p (by rw [HTL.out]; exact hp)
  obtain ⟨bt', ot', e', _, cq⟩ := HTV.out.below HB0.out q (by rw [HTL.out]; exact hq)
  simp only [Option.some.injEq, Addr.mk.injEq, and_true] at e'
  obtain ⟨rfl, rfl⟩ := e'
  obtain ⟨ii, _⟩ := one_block HK.out.1
  have j0 := ii 0
  have j1 := ii 1
  have j2 := ii 2
  have hpi : (p : Int) < (tn : Int) := by omega
  have hqi : (q : Int) < (tn : Int) := by omega
  have hp0 : (0 : Int) ≤ (p : Int) := by omega
  have hq0 : (0 : Int) ≤ (q : Int) := by omega
  generalize hvp : nth zs p = vp at *
  generalize hvq : nth zs q = vq at *
  have HVP := hide hvp
  have HVQ := hide hvq
  clear hvp hvq
  have lw : w.heap.size < W0.heap.size := by rw [HZ.out]; omega
  clear ii
  refine wp_norm ?_
  go_region
  all_goals
    rw [onNormal_normal]
    have HT0 : Hid (TurB w xo (p : Int) (q : Int) ax nx cx vp vq (.slice none 0 0) 0 (((xl.take 0).map (tA (fW zs))).flatMap argC) (W0.alloc (.cells #[.int .u16 xo, .int .u32 vp, .int .u32 vq, .slice none 0 0] 51)).drew) := by
      have hba : Below W0.heap.size W0 (W0.alloc (.cells #[.int .u16 xo, .int .u32 vp, .int .u32 vq, .slice none 0 0] 51)).drew := ((Below.refl _ W0).alloc (Nat.le_refl _) _).drew
      refine ⟨(hba.block _ (by rw [HZ.out]; omega)).trans HK.out.1, (hba.block _ (by rw [HZ.out]; omega)).trans HK.out.2, ?_, by simpa using World.ownsRow_nil _ _ _ _, HB0.out.trans (hba.mono HB0.out.size)⟩
      have := heap_alloc_new W0 (.cells #[.int .u16 xo, .int .u32 vp, .int .u32 vq, .slice none 0 0] 51)
      rw [HZ.out] at this
      exact this
    rw [HZ.out]
    clear cp cq j0 j1 j2
    go_wp2_with fail
    generalize (W0.alloc (.cells #[.int .u16 xo, .int .u32 vp, .int .u32 vq, .slice none 0 0] 51)).drew = W1 at *
    go_loopw [6] (fun i wr => ∃ (k : Nat) (v : Value), k ≤ nx ∧ i = .int .i64 k ∧ TurB w xo (p : Int) (q : Int) ax nx cx vp vq v k (((xl.take k).map (tA (fW zs))).flatMap argC) wr) (fun i _ => nx - (intOf i).toNat)
    case atStart => exact ⟨0, .slice none 0 0, Nat.zero_le _, rfl, HT0.out⟩
    case round =>
      obtain ⟨k, v, hk, rfl, hT⟩ := hrel
      clear HT0
      obtain ⟨a', c', rfl⟩ := own_shapeU hT.own
      have hkb : (k : Int) < 140737488351232 := by have := HN.out; omega
      have b3 := (one_block hT.ibox).1 3
      by_cases hlt : k < nx
      · have hki : (k : Int) < (nx : Int) := by omega
        have hk0 : (0 : Int) ≤ (k : Int) := by omega
        obtain ⟨ba, oa, rfl, hba0, z0, z1', z2'⟩ := HV.out.below hT.bel k (by rw [HL.out]; exact hlt)
        have hpk := HPA.out k hlt
        have htp := HTP.out k hlt
        have HN4 : Hid (k + 1 ≤ maxLen) := by show _ ≤ _; have := HN.out; unfold maxLen; omega
        have HN5 : Hid ((k + 1) * 24 ≤ 140737488355328) := by show _ ≤ _; have := HN.out; omega
        generalize nthA xl k = z at *
        obtain ⟨y1, y2, z3⟩ := z
        simp only at *
        have hba : Below wr.heap.size wr (wr.alloc (.cells #[.int .u8 y1, .int .u32 y2, .string z3] 63)) := (Below.refl _ wr).alloc (Nat.le_refl _) _
        have HTA := hide (hT.below hba)
        have lwr := hT.size
        have x3 := (one_block hT.xbox).1 3
        have lw0 : w.heap.size < wr.heap.size := by omega
        by_cases h1 : y1 = 1
        · subst h1
          obtain ⟨h2a, h2b⟩ := hpk rfl
          obtain ⟨d, rfl⟩ : ∃ d : Nat, y2 = (d : Int) := ⟨y2.toNat, by omega⟩
          obtain ⟨bt', ot', e', hbd, cd⟩ := HTV.out.below (hT.bel.trans (hba.mono hT.bel.size)) d (by rw [HTL.out]; omega)
          simp only [Option.some.injEq, Addr.mk.injEq, and_true] at e'
          obtain ⟨rfl, rfl⟩ := e'
          have hdi : (d : Int) < (tn : Int) := h2b
          have hd0 : (0 : Int) ≤ (d : Int) := by omega
          have htA : tA (fW zs) (1, (d : Int), z3) = (1, nth zs d, z3) := by simp [tA, fW_nat]
          rw [htA] at htp
          have HTQ := hide htp
          clear htp htA
          generalize nth zs d = vd at *
          have kA := heap_alloc_new wr (.cells #[.int .u8 1, .int .u32 (d : Int), .string z3] 63)
          obtain ⟨aa, af⟩ := one_block kA
          have a1 := aa 1
          have f1 := af 1
          have HTW : Hid (TurB w xo (p : Int) (q : Int) (some ⟨ba, oa, none⟩) nx cx vp vq (.slice a' k c') k (((xl.take k).map (tA (fW zs))).flatMap argC) (wr.alloc (.cells #[.int .u8 1, .int .u32 vd, .string z3] 63))) := hT.below ((Below.refl _ wr).alloc (Nat.le_refl _) _)
          clear hpk hba kA aa af h2a h2b hT HTA
          have hTw : TurB w xo (p : Int) (q : Int) (some ⟨ba, oa, none⟩) nx cx vp vq (.slice a' k c') k (((xl.take k).map (tA (fW zs))).flatMap argC) ((wr.alloc (.cells #[.int .u8 1, .int .u32 vd, .string z3] 63)).alloc (.cells #[.int .u8 1, .int .u32 vd, .string z3] 63)) := HTW.out.below ((Below.refl _ _).alloc (Nat.le_refl _) _)
          have N1 := hide hTw.own
          have N2 : Hid (∀ (j : Nat) (u : Value), [Value.int .u8 1, .int .u32 vd, .string z3][j]? = some u → ((wr.alloc (.cells #[.int .u8 1, .int .u32 vd, .string z3] 63)).alloc (.cells #[.int .u8 1, .int .u32 vd, .string z3] 63)).cell? ((⟨wr.heap.size + 1, 0, none⟩ : Addr).add j) = some u) := World.news_of_block (cs := #[.int .u8 1, .int .u32 vd, .string z3]) (t := 63) (fr := (0, 0)) (by have := heap_alloc_new (wr.alloc (.cells #[.int .u8 1, .int .u32 vd, .string z3] 63)) (.cells #[.int .u8 1, .int .u32 vd, .string z3] 63); simpa using this)
          have N3 : Hid (∀ u : Value, u ∈ [Value.int .u8 1, .int .u32 vd, .string z3] → u.oneCell' = true) := by intro u hu; simp at hu; rcases hu with rfl | rfl | rfl <;> rfl
          have N6 : Hid (w.heap.size + 3 ≤ ((wr.alloc (.cells #[.int .u8 1, .int .u32 vd, .string z3] 63)).alloc (.cells #[.int .u8 1, .int .u32 vd, .string z3] 63)).heap.size) := by show _ ≤ _; have := hTw.size; omega
          have HTw := hide hTw
          clear hTw
          go_wp2_with (at_builtin; refine wpList_append_own _ rfl (.tmp 43) (.tmp 45) 49 rfl (w.heap.size + 3) 63 i0 (.agg #[.int .u8 0, .int .u32 0, .string ⟨#[]⟩]) 3 24 Try.underlying49 HI.out.1 HI.out.2.1 HI.out.2.2.1 HI.out.2.2.2 rfl (by decide) (.slice a' k c') k _ rfl N1.out ⟨wr.heap.size + 1, 0, none⟩ 1 1 [.int .u8 1, .int .u32 vd, .string z3] rfl rfl N2.out N3.out HN4.out HN5.out N6.out ?_)
          intro v5 w5 hown5 hgr5 _
          obtain ⟨hT5, g5, gf5⟩ := HTw.out.push hgr5 hown5
          have HT5 := hide hT5
          obtain ⟨a5, c5, rfl⟩ := own_shapeU hown5
          clear hT5 hown5 hgr5 N1 N2 N3 N6 HTw HTW
          go_wp2_with fail
          go_roundw
          case rel => exact ⟨k + 1, _, by omega, by go_num, by rw [HTQ.out]; first | exact HT5.out | (rw [List.map_take]; exact HT5.out)⟩
          case measure => simp [intOf]; omega
        · have h1' : (y1 == 1) = false := by simpa using h1
          have htA : tA (fW zs) (y1, y2, z3) = (y1, y2, z3) := by simp [tA, h1]
          rw [htA] at htp
          have HTQ := hide htp
          clear htp htA
          have kB := heap_alloc_new wr (.cells #[.int .u8 y1, .int .u32 y2, .string z3] 63)
          have HKB := hide kB
          have HLY : Hid (wr.heap.size < (wr.alloc (.cells #[.int .u8 y1, .int .u32 y2, .string z3] 63)).heap.size) := by show _ < _; simp
          have HTW := HTA
          clear hpk hba kB hT HTA h1
          have lBA := HLY.out
          have hTw : TurB w xo (p : Int) (q : Int) (some ⟨ba, oa, none⟩) nx cx vp vq (.slice a' k c') k (((xl.take k).map (tA (fW zs))).flatMap argC) ((wr.alloc (.cells #[.int .u8 y1, .int .u32 y2, .string z3] 63)).alloc (.cells #[.int .u8 y1, .int .u32 y2, .string z3] 63)) := HTW.out.below ((Below.refl _ _).alloc (Nat.le_refl _) _)
          have N1 := hide hTw.own
          have N2 : Hid (∀ (j : Nat) (u : Value), [Value.int .u8 y1, .int .u32 y2, .string z3][j]? = some u → ((wr.alloc (.cells #[.int .u8 y1, .int .u32 y2, .string z3] 63)).alloc (.cells #[.int .u8 y1, .int .u32 y2, .string z3] 63)).cell? ((⟨wr.heap.size + 1, 0, none⟩ : Addr).add j) = some u) := World.news_of_block (cs := #[.int .u8 y1, .int .u32 y2, .string z3]) (t := 63) (fr := (0, 0)) (by have := heap_alloc_new (wr.alloc (.cells #[.int .u8 y1, .int .u32 y2, .string z3] 63)) (.cells #[.int .u8 y1, .int .u32 y2, .string z3] 63); simpa using this)
          have N3 : Hid (∀ u : Value, u ∈ [Value.int .u8 y1, .int .u32 y2, .string z3] → u.oneCell' = true) := by intro u hu; simp at hu; rcases hu with rfl | rfl | rfl <;> rfl
          have N6 : Hid (w.heap.size + 3 ≤ ((wr.alloc (.cells #[.int .u8 y1, .int .u32 y2, .string z3] 63)).alloc (.cells #[.int .u8 y1, .int .u32 y2, .string z3] 63)).heap.size) := by show _ ≤ _; have := hTw.size; omega
          have HTw := hide hTw
          clear hTw
          go_wp2_with (at_builtin; refine wpList_append_own _ rfl (.tmp 43) (.tmp 45) 49 rfl (w.heap.size + 3) 63 i0 (.agg #[.int .u8 0, .int .u32 0, .string ⟨#[]⟩]) 3 24 Try.underlying49 HI.out.1 HI.out.2.1 HI.out.2.2.1 HI.out.2.2.2 rfl (by decide) (.slice a' k c') k _ rfl N1.out ⟨wr.heap.size + 1, 0, none⟩ 1 1 [.int .u8 y1, .int .u32 y2, .string z3] rfl rfl N2.out N3.out HN4.out HN5.out N6.out ?_)
          intro v5 w5 hown5 hgr5 _
          obtain ⟨hT5, g5, gf5⟩ := HTw.out.push hgr5 hown5
          have HT5 := hide hT5
          obtain ⟨a5, c5, rfl⟩ := own_shapeU hown5
          clear hT5 hown5 hgr5 N1 N2 N3 N6 HTw HTW
          go_wp2_with fail
          go_roundw
          case rel => exact ⟨k + 1, _, by omega, by go_num, by rw [HTQ.out]; first | exact HT5.out | (rw [List.map_take]; exact HT5.out)⟩
          case measure => simp [intOf]; omega
      · obtain rfl : k = nx := by omega
        obtain ⟨xx, _⟩ := one_block hT.xbox
        obtain ⟨rr, rf⟩ := one_block hT.rbox
        have x0 := xx 0
        have x1 := xx 1
        have x2 := xx 2
        have x3 := xx 3
        have r0 := rr 0
        have r1 := rr 1
        have r2 := rr 2
        have r3 := rr 3
        have hO := hT.own
        rw [HAL.out] at hO
        have HOF := hide (ownsRow_setCell_below (ownsRow_setCell_below (ownsRow_setCell_below (ownsRow_setCell_below hO (a := ⟨w.heap.size + 1, 0, none⟩) (by simp) (.int .u16 xo)) (a := ⟨w.heap.size + 1, 1, none⟩) (by simp) (.int .u32 vp)) (a := ⟨w.heap.size + 1, 2, none⟩) (by simp) (.int .u32 vq)) (a := ⟨w.heap.size + 1, 3, none⟩) (by simp) (.slice a' k c'))
        have HXF : Hid (((((wr.setCell ⟨w.heap.size + 1, 0, none⟩ (.int .u16 xo)).setCell ⟨w.heap.size + 1, 1, none⟩ (.int .u32 vp)).setCell ⟨w.heap.size + 1, 2, none⟩ (.int .u32 vq)).setCell ⟨w.heap.size + 1, 3, none⟩ (.slice a' k c')).heap[w.heap.size + 1]? = some (.cells #[.int .u16 xo, .int .u32 vp, .int .u32 vq, .slice a' k c'] 51 (0, 0))) := by have h := hT.rbox; show _ = _; simp [World.setCell, Array.getElem?_modify, h]
        have HBF := hide ((((hT.bel.setCell (p := ⟨w.heap.size + 1, 0, none⟩) (by simp) (.int .u16 xo)).setCell (p := ⟨w.heap.size + 1, 1, none⟩) (by simp) (.int .u32 vp)).setCell (p := ⟨w.heap.size + 1, 2, none⟩) (by simp) (.int .u32 vq)).setCell (p := ⟨w.heap.size + 1, 3, none⟩) (by simp) (.slice a' k c'))
        clear xx rr hT hO
        go_wp2_with fail
        generalize (((wr.setCell ⟨w.heap.size + 1, 0, none⟩ (.int .u16 xo)).setCell ⟨w.heap.size + 1, 1, none⟩ (.int .u32 vp)).setCell ⟨w.heap.size + 1, 2, none⟩ (.int .u32 vq)).setCell ⟨w.heap.size + 1, 3, none⟩ (.slice a' k c') = Z at *
        obtain ⟨dd, _⟩ := one_block HXF.out
        have d0 := dd 0
        have d1 := dd 1
        have d2 := dd 2
        have d3 := dd 3
        exact bodyPost_ret (v := .agg #[.int .u16 xo, .int .u32 vp, .int .u32 vq, .slice a' k c']) (by simp [results, Try.results53, go_sem, d0, d1, d2, d3]) rfl ⟨a', c', by rw [HVP.out, HVQ.out], HOF.out, HBF.out⟩

end Go.Proofs.Ytmobologlaeefac

/-
  A row of instructions that grows, each with arguments elsewhere.
-/
namespace Go.Proofs.Ytmobologlaeefac
open Go.RowKit
set_option linter.unusedVariables false
set_option linter.unusedSimpArgs false

theorem ArgsV.grownW {w w' : World} {a : Option Addr} {l : List ArgT} {row : Option Nat} (h : ArgsV w a l) (hg : w.grownBy w' row) (hne : ∀ b off, a = some ⟨b, off, none⟩ → row ≠ some b) : ArgsV w' a l := by
  intro j hj
  obtain ⟨b, off, e, h1, h2, h3, h4⟩ := h j hj
  have hb : w'.heap[b]? = w.heap[b]? := hg.block b h1 (fun e2 => hne b off e e2.symm)
  have hc : ∀ i, w'.cell? ⟨b, i, none⟩ = w.cell? ⟨b, i, none⟩ := fun i => by simp only [World.cell?, hb]
  exact ⟨b, off, e, Nat.lt_of_lt_of_le h1 hg.size, by rw [hc]; exact h2, by rw [hc]; exact h3, by rw [hc]; exact h4⟩
def cellsI (x : InstT) (a : Option Addr) (n c : Nat) : List Value := [.int .u16 x.1, .int .u32 x.2.1, .int .u32 x.2.2.1, .slice a n c]
/-- The instructions so far, in the row v from block lo on. -/
def EachW (w : World) (lo : Nat) (ob : Option Nat) (l : List InstT) (cs : List Value) : Prop :=
  cs.length = l.length * 4 ∧ ∀ j, j < l.length → ∃ aj cj nj, cs[j * 4]? = some (.int .u16 (nthI l j).1) ∧ cs[j * 4 + 1]? = some (.int .u32 (nthI l j).2.1) ∧ cs[j * 4 + 2]? = some (.int .u32 (nthI l j).2.2.1) ∧ cs[j * 4 + 3]? = some (.slice aj nj cj) ∧ (nthI l j).2.2.2.length = nj ∧ ArgsV w aj (nthI l j).2.2.2 ∧ nj ≤ cj ∧ ∀ b off, aj = some ⟨b, off, none⟩ → lo ≤ b ∧ b < w.heap.size ∧ ob ≠ some b
theorem eachW_nil (w : World) (lo : Nat) (ob : Option Nat) : EachW w lo ob [] [] := ⟨rfl, fun j hj => by simp at hj⟩
theorem EachW.below {w w' : World} {lo : Nat} {ob : Option Nat} {l : List InstT} {cs : List Value} (h : EachW w lo ob l cs) (hb : Below w.heap.size w w') : EachW w' lo ob l cs := by
  refine ⟨h.1, fun j hj => ?_⟩
  obtain ⟨aj, cj, nj, c0, c1, c2, c3, c4, c5, c6, c7⟩ := h.2 j hj
  exact ⟨aj, cj, nj, c0, c1, c2, c3, c4, c5.below hb, c6, fun b off e => ⟨(c7 b off e).1, Nat.lt_of_lt_of_le (c7 b off e).2.1 hb.size, (c7 b off e).2.2⟩⟩
theorem EachW.set {w : World} {lo : Nat} {ob : Option Nat} {l : List InstT} {cs : List Value} (h : EachW w lo ob l cs) {b : Nat} (hb : b < lo) (i : Nat) (u : Value) : EachW (w.setCell ⟨b, i, none⟩ u) lo ob l cs := by
  refine ⟨h.1, fun j hj => ?_⟩
  obtain ⟨aj, cj, nj, c0, c1, c2, c3, c4, c5, c6, c7⟩ := h.2 j hj
  exact ⟨aj, cj, nj, c0, c1, c2, c3, c4, c5.setCell (fun b' off' e h2 => by have := (c7 b' off' e).1; omega) u, c6, fun b' off' e => ⟨(c7 b' off' e).1, by rw [World.size_setCell]; exact (c7 b' off' e).2.1, (c7 b' off' e).2.2⟩⟩
theorem nthI_snocW (l : List InstT) (x : InstT) (j : Nat) (hj : j < l.length) : nthI (l ++ [x]) j = nthI l j := by simp [nthI, List.getD, List.getElem?_append_left hj]
theorem nthI_lastW (l : List InstT) (x : InstT) : nthI (l ++ [x]) l.length = x := by simp [nthI, List.getD]
theorem EachW.push {w w' : World} {lo : Nat} {ob : Option Nat} {g' : Nat} {l : List InstT} {cs : List Value} {x : InstT} {a : Option Addr} {n c : Nat} (h : EachW w lo ob l cs) (hv : ∀ b, ob = some b → b < w.heap.size) (ha : ArgsV w a x.2.2.2) (hl : x.2.2.2.length = n) (hc : n ≤ c) (hb : ∀ b off, a = some ⟨b, off, none⟩ → lo ≤ b ∧ b < w.heap.size ∧ ob ≠ some b)
    (hg : w.grownBy w' ob) (hat : ob = some g' ∨ g' = w.heap.size) : EachW w' lo (some g') (l ++ [x]) (cs ++ cellsI x a n c) := by
  obtain ⟨h1, h2⟩ := h
  have far : ∀ b, b < w.heap.size → ob ≠ some b → some g' ≠ some b := fun b hb1 hb2 e => by
    cases e
    rcases hat with h | h
    · exact hb2 h
    · omega
  refine ⟨by simp [cellsI, h1]; omega, fun j hj => ?_⟩
  rw [List.length_append, List.length_singleton] at hj
  by_cases hjl : j < l.length
  · rw [nthI_snocW l x j hjl]
    obtain ⟨aj, cj, nj, c0, c1, c2, c3, c4, c5, c6, c7⟩ := h2 j hjl
    have e : ∀ i, i < cs.length → (cs ++ cellsI x a n c)[i]? = cs[i]? := fun i hi => List.getElem?_append_left hi
    refine ⟨aj, cj, nj, by rw [e _ (by omega)]; exact c0, by rw [e _ (by omega)]; exact c1, by rw [e _ (by omega)]; exact c2, by rw [e _ (by omega)]; exact c3, c4, c5.grownW hg (fun b off e => (c7 b off e).2.2), c6, fun b off e => ⟨(c7 b off e).1, Nat.lt_of_lt_of_le (c7 b off e).2.1 hg.size, far b (c7 b off e).2.1 (c7 b off e).2.2⟩⟩
  · obtain rfl : j = l.length := by omega
    rw [nthI_lastW]
    have e : ∀ i, (cs ++ cellsI x a n c)[l.length * 4 + i]? = (cellsI x a n c)[i]? := fun i => by
      rw [List.getElem?_append_right (by omega)]; congr 1; omega
    refine ⟨a, c, n, by have h0 := e 0; rw [Nat.add_zero] at h0; rw [h0]; rfl, by rw [e 1]; rfl, by rw [e 2]; rfl, by rw [e 3]; rfl, hl, ha.grownW hg (fun b off e => (hb b off e).2.2), hc, fun b off e => ⟨(hb b off e).1, Nat.lt_of_lt_of_le (hb b off e).2.1 hg.size, far b (hb b off e).2.1 (hb b off e).2.2⟩⟩
theorem EachW.view {w : World} {lo lo' T n c : Nat} {a : Option Addr} {l : List InstT} {cs : List Value} (h : EachW w lo' (Value.ownBlock (.slice a n c)) l cs) (ho : w.ownsRow lo T 4 (.slice a n c) n cs) (hl : l.length = n) : InstsV w a l := by
  intro j hj
  obtain ⟨aj, cj, nj, c0, c1, c2, c3, c4, c5, c6, c7⟩ := h.2 j hj
  rcases ho.2 with ⟨_, h0⟩ | ⟨g, cap', cur, hv, _, hg, _⟩
  · omega
  · cases hv
    have hl4 := h.1
    have e := fun i (hi : i < n * 4) => ho.cellAt i hi
    refine ⟨g, 0, aj, cj, nj, rfl, (Array.getElem?_eq_some_iff.1 hg).1, ?_, ?_, ?_, ?_, c4, c5, c6⟩
    · rw [Nat.zero_add, e _ (by omega)]; exact c0
    · rw [Nat.zero_add, e _ (by omega)]; exact c1
    · rw [Nat.zero_add, e _ (by omega)]; exact c2
    · rw [Nat.zero_add, e _ (by omega)]; exact c3
end Go.Proofs.Ytmobologlaeefac

/-
  A region that draws its order, in a round or out of one: an operation that yields the same in every world of a class that no operation of the region leaves may be taken first.
-/
namespace Go.Proofs.Ytmobologlaeefac
open Go.RowKit
set_option linter.unusedVariables false

section
variable {F : Fence} {n : Nat} {P : Program} {md : Region.Mode} {ops : Array Oper} {C : World → Prop} {Q : Exit → Act → World → Prop}

/-- As wpAnyIn, and each operation leaves a world of the class. -/
def wpAnyC (F : Fence) (n : Nat) (P : Program) (md : Region.Mode) (ops : Array Oper) (C : World → Prop) (Q : Exit → Act → World → Prop) : Nat → Array Bool → Act → World → Prop
  | 0, listed, a, w => Region.ready md ops listed = [] ∧ Q .normal a w
  | fuel + 1, listed, a, w => (Region.ready md ops listed = [] → Q .normal a w) ∧ ∀ i ∈ Region.ready md ops listed, wpOpIn F n P ops Q i (fun a' w' => C w' ∧ wpAnyC F n P md ops C Q fuel (listed.setIfInBounds i true) a' w') a w

theorem wpAnyC_sound : ∀ (fuel : Nat) (listed : Array Bool) (a : Act) (w : World), wpAnyC F n P md ops C Q fuel listed a w → wpAnyIn F n P md ops Q fuel listed a w
  | 0, _, _, _, h => h
  | fuel + 1, listed, a, w, h => ⟨h.1, fun i hi => wpOpIn_mono (fun a' w' h' => wpAnyC_sound fuel _ a' w' h'.2) (h.2 i hi)⟩

theorem wpAnyC_done {listed : Array Bool} {a : Act} {w : World} (hr : Region.ready md ops listed = []) (h : Q .normal a w) : ∀ fuel, wpAnyC F n P md ops C Q fuel listed a w
  | 0 => ⟨hr, h⟩
  | _ + 1 => ⟨fun _ => h, by rw [hr]; simp⟩

/-- In every world of the class it yields v. -/
def YieldsC (P : Program) (ops : Array Oper) (C : World → Prop) (o : Oper) (v : Value) (a : Act) : Prop :=
  (Region.wanted o (yielded ops a.tmps) = true ∧ ∀ w, C w → (execOp a.eval o).run P w = .ok (.value v) w) ∨ (Region.wanted o (yielded ops a.tmps) = false ∧ v = undef)

theorem YieldsC.op {i : Nat} {o : Oper} {v : Value} {a : Act} (hF : ∀ f, F.fn f) (hnd : ∀ c, o.op ≠ .defer c) (hi : ops[i]? = some o) (hy : YieldsC P ops C o v a) {K : Act → World → Prop} {w : World} (hC : C w) (h : K (a.put o.dst v) w) : wpOpIn F n P ops Q i K a w := by
  unfold wpOpIn
  simp only [hi]
  rcases hy with ⟨hw, hv⟩ | ⟨hw, rfl⟩
  · rw [if_pos hw]
    exact ⟨fun f _ => hF f, by rw [Oper.semAt_eq _ _ _ hnd, hv w hC]; exact h⟩
  · rw [if_neg (by rw [hw]; simp)]
    exact ⟨fun f _ => hF f, h⟩

/-- What another operation does hangs not on what the one has yielded. -/
theorem opIn_put {j : Nat} {oi oj : Oper} {v : Value} (hF : ∀ f, F.fn f) (hnd : ∀ c, oj.op ≠ .defer c) (hj : ops[j]? = some oj) (hap : oi.apart ops oj = true) (hsj : ∀ cs b, oj.op ≠ .select cs b)
    (hQ : ∀ c a w, Q (.panic c) (a.put oi.dst v) w → Q (.panic c) a w) {K : Act → World → Prop} {a : Act} {w : World} (h : wpOpIn F n P ops Q j K (a.put oi.dst v) w) :
    wpOpIn F n P ops Q j (fun a' w' => (∃ ds u, a' = ({ a with defers := ds } : Act).put oj.dst u) ∧ K (a'.put oi.dst v) w') a w := by
  obtain ⟨h1, h2, _⟩ := Oper.apart_spec hap
  unfold wpOpIn at *
  simp only [hj] at *
  rw [wanted_put oj a oi.dst v h1] at h
  have here : ∀ u w', K ((a.put oi.dst v).put oj.dst u) w' → (∃ ds u', a.put oj.dst u = ({ a with defers := ds } : Act).put oj.dst u') ∧ K ((a.put oj.dst u).put oi.dst v) w' := fun u w' hk => ⟨⟨a.defers, u, rfl⟩, by rw [← Act.put_comm a v u h2]; exact hk⟩
  by_cases hw : Region.wanted oj (yielded ops a.tmps) = true
  · rw [if_pos hw] at h ⊢
    obtain ⟨_, h⟩ := h
    refine ⟨fun f _ => hF f, ?_⟩
    rw [Oper.semAt_eq _ _ _ hnd, execOp_put oj hsj a oi.dst v h1] at h
    rw [Oper.semAt_eq _ _ _ hnd]
    generalize (execOp a.eval oj).run P w = r at *
    cases r with
    | ok x w' =>
      cases x <;> simp only [Oper.uponIn] at h ⊢
      case value u => exact here u _ h
      case skip => exact here _ _ h
      case defer d =>
        refine ⟨⟨d :: a.defers, undef, rfl⟩, ?_⟩
        rw [← Act.put_comm _ v undef h2, ← Act.put_defers]
        exact h
      case enter f args =>
        refine ⟨h.1, CallsIn.mono h.2 fun e w'' he => ?_⟩
        cases e with
        | returned u => exact here u _ he
        | panicked c => exact hQ _ _ _ he
        | outgrown => exact he
      case row row args => exact ⟨h.1, RowsIn.mono h.2 fun u w'' he => here u _ he⟩
      case round l f tmps assign body =>
        refine ⟨h.1, RoundIn.mono h.2 fun e w'' he => ?_⟩
        cases e with
        | returned u => exact here u _ he
        | panicked c => exact hQ _ _ _ he
        | outgrown => exact he
    | halt x w' =>
      cases x <;> simp only [Oper.uponIn] at h ⊢
      case panic u => exact hQ _ _ _ h
  · rw [if_neg hw] at h ⊢
    exact ⟨fun f _ => hF f, here _ _ h.2⟩

theorem YieldsC.put {oi oj : Oper} {v u : Value} {a : Act} {ds : List Deferred} (hy : YieldsC P ops C oi v a) (hap : oi.apart ops oj = true) (hsi : ∀ cs b, oi.op ≠ .select cs b) : YieldsC P ops C oi v (({ a with defers := ds } : Act).put oj.dst u) := by
  obtain ⟨_, _, h3⟩ := Oper.apart_spec hap
  have e1 : execOp (({ a with defers := ds } : Act).put oj.dst u).eval oi = execOp a.eval oi := (execOp_put oi hsi { a with defers := ds } oj.dst u h3).trans rfl
  have e2 : Region.wanted oi (yielded ops (({ a with defers := ds } : Act).put oj.dst u).tmps) = Region.wanted oi (yielded ops a.tmps) := (wanted_put oi { a with defers := ds } oj.dst u h3).trans rfl
  unfold YieldsC
  rw [e1, e2]
  exact hy

theorem wpAnyC_first {i : Nat} {oi : Oper} {v : Value} (hF : ∀ f, F.fn f) (hnd : ∀ (j : Nat) (o : Oper), ops[j]? = some o → ∀ c, o.op ≠ .defer c) (hi : ops[i]? = some oi) (hsel : ∀ (j : Nat) (o : Oper) cs b, ops[j]? = some o → o.op ≠ .select cs b)
    (hQ : ∀ c a w, Q (.panic c) (a.put oi.dst v) w → Q (.panic c) a w) : ∀ (fuel : Nat) (listed : Array Bool) (a : Act) (w : World),
      (∀ j oj, ops[j]? = some oj → j ≠ i → listed.getD j true = false → (∀ e ∈ oj.after, Region.binds md e = true → e.on ≠ i) → oi.apart ops oj = true) →
      i ∈ Region.ready md ops listed → YieldsC P ops C oi v a → C w → wpAnyC F n P md ops C Q fuel (listed.setIfInBounds i true) (a.put oi.dst v) w → wpAnyC F n P md ops C Q (fuel + 1) listed a w := by
  intro fuel
  induction fuel with
  | zero =>
    intro listed a w _ hr hy hC H
    refine ⟨fun h => (by rw [h] at hr; cases hr), fun j hj => ?_⟩
    by_cases hji : j = i
    · subst hji; exact hy.op hF (hnd j oi hi) hi hC ⟨hC, H⟩
    · have := ready_mono hj hji
      rw [H.1] at this
      cases this
  | succ fuel ih =>
    intro listed a w hfree hr hy hC H
    refine ⟨fun h => (by rw [h] at hr; cases hr), fun j hj => ?_⟩
    by_cases hji : j = i
    · subst hji; exact hy.op hF (hnd j oi hi) hi hC ⟨hC, H⟩
    · obtain ⟨hjun, oj, hoj, hall⟩ := mem_ready.1 hj
      have hnot : ∀ e ∈ oj.after, Region.binds md e = true → e.on ≠ i := fun e he hb heq => by
        have h1 := hall e he hb
        have h0 := (mem_ready.1 hr).1
        rw [heq] at h1
        rcases Nat.lt_or_ge i listed.size with h' | h'
        · simp [h'] at h0 h1; rw [h0] at h1; cases h1
        · simp [Array.getElem?_eq_none h'] at h1
      have hap := hfree j oj hoj hji hjun hnot
      have h2 := opIn_put hF (hnd j oj hoj) hoj hap (fun cs b => hsel j oj cs b hoj) hQ (H.2 j (ready_mono hj hji))
      refine wpOpIn_mono (fun a' w' h3 => ?_) h2
      obtain ⟨⟨ds, u, rfl⟩, hC', h4⟩ := h3
      refine ⟨hC', ih (listed.setIfInBounds j true) _ w' (fun k ok hk hki hun hno => hfree k ok hk hki ?_ hno) (ready_mono hr (Ne.symm hji)) (hy.put hap (fun cs b => hsel i oi cs b hi)) hC' ?_⟩
      · by_cases hjk : j = k
        · subst hjk; exact hjun
        · rw [getD_set_ne true hjk] at hun; exact hun
      · rw [Array.setIfInBounds_comm _ _ hji]
        exact h4

/-- No operation of it is a defer. -/
def noDefer (ops : Array Oper) : Bool := ops.all fun o => match o.op with | .defer _ => false | _ => true
theorem noDefer_spec (h : noDefer ops = true) (j : Nat) (o : Oper) (hj : ops[j]? = some o) (c : Call) : o.op ≠ .defer c := fun e => by
  obtain ⟨hlt, hk⟩ := Array.getElem?_eq_some_iff.1 hj
  have := (Array.all_eq_true.1 h) j hlt
  rw [hk, e] at this
  cases this

theorem wpAnyC_take {i : Nat} {oi : Oper} {v : Value} {fuel : Nat} {listed : Array Bool} {a : Act} {w : World} (hF : ∀ f, F.fn f) (hnd : noDefer ops = true) (hi : ops[i]? = some oi) (hs : Region.noSelect ops = true) (hf : Region.free md ops listed i = true) (hr : (Region.ready md ops listed).contains i = true)
    (hQ : ∀ c a w, Q (.panic c) (a.put oi.dst v) w → Q (.panic c) a w) (hC : C w) (hy : YieldsC P ops C oi v a) (h : wpAnyC F n P md ops C Q fuel (listed.setIfInBounds i true) (a.put oi.dst v) w) : wpAnyC F n P md ops C Q (fuel + 1) listed a w :=
  wpAnyC_first hF (noDefer_spec hnd) hi (Region.noSelect_spec hs) hQ fuel listed a w (Region.free_spec hi hf) (by simpa using hr) hy hC h

/-- The same, with the temporary named. -/
theorem wpAnyC_takeD {i : Nat} {oi : Oper} (d : Option Tmp) {v : Value} {fuel : Nat} {listed : Array Bool} {a : Act} {w : World} (hF : ∀ f, F.fn f) (hnd : noDefer ops = true) (hi : ops[i]? = some oi) (hd : oi.dst = d) (hs : Region.noSelect ops = true) (hf : Region.free md ops listed i = true) (hr : (Region.ready md ops listed).contains i = true)
    (hQ : ∀ c a w, Q (.panic c) (a.put d v) w → Q (.panic c) a w) (hC : C w) (hy : YieldsC P ops C oi v a) (h : wpAnyC F n P md ops C Q fuel (listed.setIfInBounds i true) (a.put d v) w) : wpAnyC F n P md ops C Q (fuel + 1) listed a w := by
  subst hd
  exact wpAnyC_take hF hnd hi hs hf hr hQ hC hy h

/-- The operations that may come up, one by one. -/
def AllC (F : Fence) (n : Nat) (P : Program) (md : Region.Mode) (ops : Array Oper) (C : World → Prop) (Q : Exit → Act → World → Prop) (fuel : Nat) (listed : Array Bool) (a : Act) (w : World) (rs : List Nat) : Prop :=
  ∀ i ∈ rs, wpOpIn F n P ops Q i (fun a' w' => C w' ∧ wpAnyC F n P md ops C Q fuel (listed.setIfInBounds i true) a' w') a w
theorem AllC.nil {fuel : Nat} {listed : Array Bool} {a : Act} {w : World} : AllC F n P md ops C Q fuel listed a w [] := fun _ h => by cases h
theorem AllC.cons {fuel : Nat} {listed : Array Bool} {a : Act} {w : World} {i : Nat} {o : Oper} {rs : List Nat} (ho : ops[i]? = some o)
    (h : ∀ K' : Act → World → Prop, (∀ a w, C w → wpAnyC F n P md ops C Q fuel (listed.setIfInBounds i true) a w → K' a w) → if Region.wanted o (yielded ops a.tmps) = true then Oper.wpIn F n P o a w K' Q else (∀ f, o.about P w a.eval = some f → F.fn f) ∧ K' (a.put o.dst undef) w)
    (hs : AllC F n P md ops C Q fuel listed a w rs) : AllC F n P md ops C Q fuel listed a w (i :: rs) := fun j hj => by
  rcases List.mem_cons.1 hj with rfl | hj
  · exact wpOpIn_step ho (fun K' hK => h K' (fun a w hC hw => hK a w ⟨hC, hw⟩))
  · exact hs j hj
theorem wpAnyC_ready {rs : List Nat} {fuel : Nat} {listed : Array Bool} {a : Act} {w : World} (hr : Region.ready md ops listed = rs) (hne : rs ≠ []) (h : AllC F n P md ops C Q fuel listed a w rs) : wpAnyC F n P md ops C Q (fuel + 1) listed a w :=
  ⟨fun h0 => absurd (hr ▸ h0) hne, hr ▸ h⟩

end

end Go.Proofs.Ytmobologlaeefac

/-
  An append within a region that draws its order, in or out of a round.
-/
namespace Go.Proofs.Ytmobologlaeefac
open Go.RowKit
set_option linter.unusedVariables false

/-- A piece of code that goes on. -/
theorem wpIn_normal {F : Fence} {n : Nat} {P : Program} {c : Code} {Q : Exit → Act → World → Prop} {a : Act} {w : World} (h : c.wpIn F n P (fun e a w => e = .normal ∧ Q .normal a w) a w) : c.wpIn F n P Q a w :=
  Code.wpIn_mono (fun e a w h => by obtain ⟨rfl, h⟩ := h; exact h) h

theorem stepAny_append {P : Program} (w : World) {F : Fence} (hF : ∀ f, F.fn f) {o : Oper} {ops : Array Oper} {a : Act} {K : Act → World → Prop} {Q : Exit → Act → World → Prop} (hgd : o.guard = none) (s x : Operand) (t : TypeId)
    (ho : o.op = .call { callee := .builtin .append, args := #[s, x], argTypes := #[t, t] }) (base : Nat) (e : TypeId) (i : TypeInfo) (z : Value) (size bytes : Nat) (ht : P.underlying t = some (.slice e)) (hi : P.info? e = some i) (hz : i.zero = some z)
    (hsize : i.size = size) (hby : i.bytes = bytes) (hzs : z.cells.size = size) (hsz : 0 < size) (v : Value) (n : Nat) (xs : List Value) (hs : a.eval s = v) (hown : w.ownsRow base e size v n xs)
    (ad : Addr) (m c : Nat) (news : List Value) (hx : a.eval x = .slice (some ad) m c) (hl : news.length = m * size) (hnews : ∀ j u, news[j]? = some u → w.cell? (ad.add j) = some u) (h1 : ∀ u ∈ news, u.oneCell' = true)
    (hm : 0 < m) (h63 : n + m ≤ maxLen) (hbytes : (n + m) * bytes ≤ 140737488355328) (hbase : base ≤ w.heap.size)
    (h : ∀ g cap w', w'.ownsRow base e size (.slice (some ⟨g, 0, none⟩) (n + m) cap) (n + m) (xs ++ news) → w.grownBy w' v.ownBlock → K (a.put o.dst (.slice (some ⟨g, 0, none⟩) (n + m) cap)) w') :
    if Region.wanted o (yielded ops a.tmps) = true then Oper.wpIn F 0 P o a w K Q else (∀ f, o.about P w a.eval = some f → F.fn f) ∧ K (a.put o.dst undef) w := by
  obtain ⟨v', w', hr, h2, h3, _⟩ := run_append_own (P := P) w base t o.type e i z size bytes ht hi hz hsize hby hzs hsz v n xs hown ad m c news hl hnews h1 h63 hbytes hbase
  obtain ⟨g, cap', rfl⟩ : ∃ g cap', v' = .slice (some ⟨g, 0, none⟩) (n + m) cap' := by
    rcases h2.2 with ⟨_, h0⟩ | ⟨g, cap', cur, e', _⟩
    · omega
    · exact ⟨g, cap', e'⟩
  rw [if_pos (by simp [Region.wanted, hgd])]
  refine ⟨fun f _ => hF f, ?_⟩
  rw [Oper.semAt_eq _ _ _ (fun c hc => by rw [ho] at hc; cases hc)]
  unfold execOp
  simp only [ho, resolve, invoke, builtin, Sem.run_bind, Sem.run_pure, Result.andThen_ok, List.map_toArray, List.map_cons, List.map_nil, hs, hx, hr]
  exact h g cap' w' h2 h3

end Go.Proofs.Ytmobologlaeefac

/-
  An append within a region that draws its order, with where its row lies.
-/
namespace Go.Proofs.Ytmobologlaeefac
open Go.RowKit
set_option linter.unusedVariables false

theorem stepAny_lies {P : Program} (w : World) {F : Fence} (hF : ∀ f, F.fn f) {o : Oper} {ops : Array Oper} {a : Act} {K : Act → World → Prop} {Q : Exit → Act → World → Prop} (hgd : o.guard = none) (s x : Operand) (t : TypeId)
    (ho : o.op = .call { callee := .builtin .append, args := #[s, x], argTypes := #[t, t] }) (base : Nat) (e : TypeId) (i : TypeInfo) (z : Value) (size bytes : Nat) (ht : P.underlying t = some (.slice e)) (hi : P.info? e = some i) (hz : i.zero = some z)
    (hsize : i.size = size) (hby : i.bytes = bytes) (hzs : z.cells.size = size) (hsz : 0 < size) (v : Value) (n : Nat) (xs : List Value) (hs : a.eval s = v) (hown : w.ownsRow base e size v n xs)
    (ad : Addr) (m c : Nat) (news : List Value) (hx : a.eval x = .slice (some ad) m c) (hl : news.length = m * size) (hnews : ∀ j u, news[j]? = some u → w.cell? (ad.add j) = some u) (h1 : ∀ u ∈ news, u.oneCell' = true)
    (hm : 0 < m) (h63 : n + m ≤ maxLen) (hbytes : (n + m) * bytes ≤ 140737488355328) (hbase : base ≤ w.heap.size)
    (h : ∀ g cap w', w'.ownsRow base e size (.slice (some ⟨g, 0, none⟩) (n + m) cap) (n + m) (xs ++ news) → w.grownBy w' v.ownBlock → (v.ownBlock = some g ∨ g = w.heap.size) → K (a.put o.dst (.slice (some ⟨g, 0, none⟩) (n + m) cap)) w') :
    if Region.wanted o (yielded ops a.tmps) = true then Oper.wpIn F 0 P o a w K Q else (∀ f, o.about P w a.eval = some f → F.fn f) ∧ K (a.put o.dst undef) w := by
  obtain ⟨g, cap', w', hr, h2, h3, h4, _⟩ := run_append_lies (P := P) w t o.type base e i z size bytes ht hi hz hsize hby hzs hsz v n xs hown ad m c news hl hnews h1 hm h63 hbytes hbase w.heap.size rfl
  rw [if_pos (by simp [Region.wanted, hgd])]
  refine ⟨fun f _ => hF f, ?_⟩
  rw [Oper.semAt_eq _ _ _ (fun c hc => by rw [ho] at hc; cases hc)]
  unfold execOp
  simp only [ho, resolve, invoke, builtin, Sem.run_bind, Sem.run_pure, Result.andThen_ok, List.map_toArray, List.map_cons, List.map_nil, hs, hx, hr]
  exact h g cap' w' h2 h3 h4

end Go.Proofs.Ytmobologlaeefac

/-
  As Draw, where some operations of the region (those of E) may leave the class: each of them waits for every operation that is taken first.
-/
namespace Go.Proofs.Ytmobologlaeefac
open Go.RowKit
set_option linter.unusedVariables false

section
variable {F : Fence} {n : Nat} {P : Program} {md : Region.Mode} {ops : Array Oper} {C : World → Prop} {E : Nat → Bool} {Q : Exit → Act → World → Prop}

/-- As wpAnyIn, and each operation leaves a world of the class. -/
def wpAnyE (F : Fence) (n : Nat) (P : Program) (md : Region.Mode) (ops : Array Oper) (C : World → Prop) (E : Nat → Bool) (Q : Exit → Act → World → Prop) : Nat → Array Bool → Act → World → Prop
  | 0, listed, a, w => Region.ready md ops listed = [] ∧ Q .normal a w
  | fuel + 1, listed, a, w => (Region.ready md ops listed = [] → Q .normal a w) ∧ ∀ i ∈ Region.ready md ops listed, wpOpIn F n P ops Q i (fun a' w' => (E i = true ∨ C w') ∧ wpAnyE F n P md ops C E Q fuel (listed.setIfInBounds i true) a' w') a w

theorem wpAnyE_sound : ∀ (fuel : Nat) (listed : Array Bool) (a : Act) (w : World), wpAnyE F n P md ops C E Q fuel listed a w → wpAnyIn F n P md ops Q fuel listed a w
  | 0, _, _, _, h => h
  | fuel + 1, listed, a, w, h => ⟨h.1, fun i hi => wpOpIn_mono (fun a' w' h' => wpAnyE_sound fuel _ a' w' h'.2) (h.2 i hi)⟩

theorem wpAnyE_done {listed : Array Bool} {a : Act} {w : World} (hr : Region.ready md ops listed = []) (h : Q .normal a w) : ∀ fuel, wpAnyE F n P md ops C E Q fuel listed a w
  | 0 => ⟨hr, h⟩
  | _ + 1 => ⟨fun _ => h, by rw [hr]; simp⟩

/-- An operation that may leave the class waits for i. -/
def waits (md : Region.Mode) (ops : Array Oper) (E : Nat → Bool) (i : Nat) : Bool := (List.range ops.size).all fun j => !E j || j == i || (match ops[j]? with | some o => o.after.any fun e => Region.binds md e && e.on == i | none => true)
theorem waits_spec {i : Nat} (h : waits md ops E i = true) {j : Nat} {oj : Oper} (hj : ops[j]? = some oj) (hE : E j = true) (hji : j ≠ i) : ∃ e ∈ oj.after, Region.binds md e = true ∧ e.on = i := by
  have hlt := (Array.getElem?_eq_some_iff.1 hj).1
  have := List.all_eq_true.1 h j (List.mem_range.2 hlt)
  simp only [hE, Bool.not_true, Bool.false_or, hj, Bool.or_eq_true, beq_iff_eq, hji, false_or] at this
  obtain ⟨e, he, h2⟩ := Array.any_eq_true'.1 this
  simp only [Bool.and_eq_true, beq_iff_eq] at h2
  exact ⟨e, he, h2.1, h2.2⟩

theorem wpAnyE_first {i : Nat} {oi : Oper} {v : Value} (hF : ∀ f, F.fn f) (hnd : ∀ (j : Nat) (o : Oper), ops[j]? = some o → ∀ c, o.op ≠ .defer c) (hi : ops[i]? = some oi) (hsel : ∀ (j : Nat) (o : Oper) cs b, ops[j]? = some o → o.op ≠ .select cs b)
    (hQ : ∀ c a w, Q (.panic c) (a.put oi.dst v) w → Q (.panic c) a w) (hE : waits md ops E i = true) : ∀ (fuel : Nat) (listed : Array Bool) (a : Act) (w : World),
      (∀ j oj, ops[j]? = some oj → j ≠ i → listed.getD j true = false → (∀ e ∈ oj.after, Region.binds md e = true → e.on ≠ i) → oi.apart ops oj = true) →
      i ∈ Region.ready md ops listed → YieldsC P ops C oi v a → C w → wpAnyE F n P md ops C E Q fuel (listed.setIfInBounds i true) (a.put oi.dst v) w → wpAnyE F n P md ops C E Q (fuel + 1) listed a w := by
  intro fuel
  induction fuel with
  | zero =>
    intro listed a w _ hr hy hC H
    refine ⟨fun h => (by rw [h] at hr; cases hr), fun j hj => ?_⟩
    by_cases hji : j = i
    · subst hji; exact hy.op hF (hnd j oi hi) hi hC ⟨.inr hC, H⟩
    · have := ready_mono hj hji
      rw [H.1] at this
      cases this
  | succ fuel ih =>
    intro listed a w hfree hr hy hC H
    refine ⟨fun h => (by rw [h] at hr; cases hr), fun j hj => ?_⟩
    by_cases hji : j = i
    · subst hji; exact hy.op hF (hnd j oi hi) hi hC ⟨.inr hC, H⟩
    · obtain ⟨hjun, oj, hoj, hall⟩ := mem_ready.1 hj
      have hnot : ∀ e ∈ oj.after, Region.binds md e = true → e.on ≠ i := fun e he hb heq => by
        have h1 := hall e he hb
        have h0 := (mem_ready.1 hr).1
        rw [heq] at h1
        rcases Nat.lt_or_ge i listed.size with h' | h'
        · simp [h'] at h0 h1; rw [h0] at h1; cases h1
        · simp [Array.getElem?_eq_none h'] at h1
      have hap := hfree j oj hoj hji hjun hnot
      have h2 := opIn_put hF (hnd j oj hoj) hoj hap (fun cs b => hsel j oj cs b hoj) hQ (H.2 j (ready_mono hj hji))
      refine wpOpIn_mono (fun a' w' h3 => ?_) h2
      obtain ⟨⟨ds, u, rfl⟩, hC0, h4⟩ := h3
      have hC' : C w' := by
        rcases hC0 with hEj | hC'
        · obtain ⟨e, he, hb, hon⟩ := waits_spec hE hoj hEj hji
          exact absurd hon (hnot e he hb)
        · exact hC'
      refine ⟨.inr hC', ih (listed.setIfInBounds j true) _ w' (fun k ok hk hki hun hno => hfree k ok hk hki ?_ hno) (ready_mono hr (Ne.symm hji)) (hy.put hap (fun cs b => hsel i oi cs b hi)) hC' ?_⟩
      · by_cases hjk : j = k
        · subst hjk; exact hjun
        · rw [getD_set_ne true hjk] at hun; exact hun
      · rw [Array.setIfInBounds_comm _ _ hji]
        exact h4

theorem wpAnyE_take {i : Nat} {oi : Oper} {v : Value} {fuel : Nat} {listed : Array Bool} {a : Act} {w : World} (hF : ∀ f, F.fn f) (hnd : noDefer ops = true) (hi : ops[i]? = some oi) (hs : Region.noSelect ops = true) (hf : Region.free md ops listed i = true) (hr : (Region.ready md ops listed).contains i = true)
    (hE : waits md ops E i = true) (hQ : ∀ c a w, Q (.panic c) (a.put oi.dst v) w → Q (.panic c) a w) (hC : C w) (hy : YieldsC P ops C oi v a) (h : wpAnyE F n P md ops C E Q fuel (listed.setIfInBounds i true) (a.put oi.dst v) w) : wpAnyE F n P md ops C E Q (fuel + 1) listed a w :=
  wpAnyE_first hF (noDefer_spec hnd) hi (Region.noSelect_spec hs) hQ hE fuel listed a w (Region.free_spec hi hf) (by simpa using hr) hy hC h

/-- The same, with the temporary named. -/
theorem wpAnyE_takeD {i : Nat} {oi : Oper} (d : Option Tmp) {v : Value} {fuel : Nat} {listed : Array Bool} {a : Act} {w : World} (hF : ∀ f, F.fn f) (hnd : noDefer ops = true) (hi : ops[i]? = some oi) (hd : oi.dst = d) (hs : Region.noSelect ops = true) (hf : Region.free md ops listed i = true) (hr : (Region.ready md ops listed).contains i = true)
    (hE : waits md ops E i = true) (hQ : ∀ c a w, Q (.panic c) (a.put d v) w → Q (.panic c) a w) (hC : C w) (hy : YieldsC P ops C oi v a) (h : wpAnyE F n P md ops C E Q fuel (listed.setIfInBounds i true) (a.put d v) w) : wpAnyE F n P md ops C E Q (fuel + 1) listed a w := by
  subst hd
  exact wpAnyE_take hF hnd hi hs hf hr hE hQ hC hy h

/-- The operations that may come up, one by one. -/
def AllE (F : Fence) (n : Nat) (P : Program) (md : Region.Mode) (ops : Array Oper) (C : World → Prop) (E : Nat → Bool) (Q : Exit → Act → World → Prop) (fuel : Nat) (listed : Array Bool) (a : Act) (w : World) (rs : List Nat) : Prop :=
  ∀ i ∈ rs, wpOpIn F n P ops Q i (fun a' w' => (E i = true ∨ C w') ∧ wpAnyE F n P md ops C E Q fuel (listed.setIfInBounds i true) a' w') a w
theorem AllE.nil {fuel : Nat} {listed : Array Bool} {a : Act} {w : World} : AllE F n P md ops C E Q fuel listed a w [] := fun _ h => by cases h
theorem AllE.cons {fuel : Nat} {listed : Array Bool} {a : Act} {w : World} {i : Nat} {o : Oper} {rs : List Nat} (ho : ops[i]? = some o)
    (h : ∀ K' : Act → World → Prop, (∀ a w, (E i = true ∨ C w) → wpAnyE F n P md ops C E Q fuel (listed.setIfInBounds i true) a w → K' a w) → if Region.wanted o (yielded ops a.tmps) = true then Oper.wpIn F n P o a w K' Q else (∀ f, o.about P w a.eval = some f → F.fn f) ∧ K' (a.put o.dst undef) w)
    (hs : AllE F n P md ops C E Q fuel listed a w rs) : AllE F n P md ops C E Q fuel listed a w (i :: rs) := fun j hj => by
  rcases List.mem_cons.1 hj with rfl | hj
  · exact wpOpIn_step ho (fun K' hK => h K' (fun a w hC hw => hK a w ⟨hC, hw⟩))
  · exact hs j hj
theorem wpAnyE_ready {rs : List Nat} {fuel : Nat} {listed : Array Bool} {a : Act} {w : World} (hr : Region.ready md ops listed = rs) (hne : rs ≠ []) (h : AllE F n P md ops C E Q fuel listed a w rs) : wpAnyE F n P md ops C E Q (fuel + 1) listed a w :=
  ⟨fun h0 => absurd (hr ▸ h0) hne, hr ▸ h⟩

end

end Go.Proofs.Ytmobologlaeefac
