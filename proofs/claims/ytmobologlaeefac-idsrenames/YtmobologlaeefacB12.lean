/-
  Texts laid together in one: Ref04Ids, IdsUses.
-/
import Derived.WalkSpells
import Derived.WalkMore
import Derived.Laws.AppendOwn
import Derived.Test.YtmobologlaeefacB07
import Derived.BigRegion
import Derived.Test.YtmobologlaeefacProg
import Derived.Test.YtmobologlaeefacB10
import Derived.Test.YtmobologlaeefacB11
/-
  What Ids of the document's answer returns, for every instruction.
-/
namespace Go.Proofs.Ytmobologlaeefac
open Go.RowKit
set_option linter.unusedVariables false
set_option linter.unusedSimpArgs false
set_option maxRecDepth 10000

set_option maxHeartbeats 2000000 in
theorem refIds_any (x : InstT) (ax : Option Addr) (n cx : Nat) (w : World) (hv : ArgsV w ax x.2.2.2) (hl : x.2.2.2.length = n) (hn : 24 * n ≤ 140737488351232) :
    Calls Try.prog 51 #[instV x ax n cx] w fun e w' => Below w.heap.size w w' ∧ ∃ a m c, e = .returned (.slice a m c) ∧ (idsI x).length = m ∧ w'.ownsRow w.heap.size 22 1 (.slice a m c) m ((idsI x).map (Value.int .u32)) := by
  obtain ⟨i0, hi, hz0, hz1, hz2⟩ := info_parts Ids.info
  have HI : Hid (Try.prog.info? 22 = some i0 ∧ i0.zero = some (.int .u32 0) ∧ i0.size = 1 ∧ i0.bytes = 4) := ⟨hi, hz0, hz1, hz2⟩
  clear hi hz0 hz1 hz2
  obtain ⟨xo, xt, xr, xl⟩ := x
  unfold instV
  simp only at *
  have HL : Hid (xl.length = n) := hl
  have eI : idsI (xo, xt, xr, xl) = idsTo xt xl n := by unfold idsI; simp only; rw [hl]
  rw [eI]
  clear eI hl
  have hS0 : IdsS w (w.alloc (.cells #[.int .u16 xo, .int .u32 xt, .int .u32 xr, .slice ax n cx] 51)) xo xt xr ax n cx (.slice none 0 0) [] := ⟨World.ownsRow_nil _ _ _ _, alloc_new w _ _, (Below.refl _ w).alloc (Nat.le_refl _) _⟩
  by_cases ht : xt = 0
  · subst ht
    have HS0 : Hid (IdsS w (w.alloc (.cells #[.int .u16 xo, .int .u32 0, .int .u32 xr, .slice ax n cx] 51)) xo 0 xr ax n cx (.slice none 0 0) []) := hS0
    clear hS0
    go_enter Try.func51, Try.ntmps51
    go_wp2
    go_loopw [3, 4] (fun v i wr => ∃ k : Nat, k ≤ n ∧ i = .int .i64 k ∧ IdsS w wr xo 0 xr ax n cx v (idsTo 0 xl k)) (fun _ i _ => n - (intOf i).toNat)
    case atStart => exact ⟨0, Nat.zero_le _, rfl, by rw [idsTo_zero, if_pos rfl]; exact HS0.out⟩
    case round =>
      obtain ⟨k, hk, rfl, hS⟩ := hrel
      clear HS0
      have hA := hv.below hS.bel
      obtain ⟨a', cap', rfl⟩ : ∃ a cap, u3 = .slice a (idsTo 0 xl k).length cap := by
        rcases hS.own.2 with ⟨rfl, h0⟩ | ⟨g, cap, cur, rfl, _⟩
        · exact ⟨none, 0, by rw [h0]⟩
        · exact ⟨_, _, rfl⟩
      by_cases hlt : k < n
      · have hkl : k < xl.length := by rw [HL.out]; exact hlt
        obtain ⟨b1, o1, rfl, hb1, p1, p2, p3⟩ := hA k hkl
        have hsu := idsTo_succ 0 xl k hkl
        have hln := idsTo_len 0 xl k
        have HSU : Hid _ := hsu
        generalize idsTo 0 xl k = zs at *
        have HS2 : Hid (idsTo 0 xl (k + 1) = zs ++ idsA (nthA xl k)) := HSU.out
        clear hsu HSU
        generalize nthA xl k = z at *
        obtain ⟨z1, z2, z3⟩ := z
        simp only at *
        have hki : (k : Int) < (n : Int) := by omega
        have hk0 : (0 : Int) ≤ (k : Int) := by omega
        have hS4 := hS
        have c3 := (one_block hS.box).1 3
        clear hA
        by_cases h1 : z1 = 1
        · subst h1
          have hA1 : idsA (1, z2, z3) = [z2] := by simp [idsA]
          have N1 : Hid ((wr.alloc (.cells #[.int .u32 z2] 22)).ownsRow (w.heap.size + 1) 22 1 (.slice a' zs.length cap') zs.length ((zs).map (Value.int .u32))) := own_below hS4.own ((Below.refl _ _).alloc (Nat.le_refl _) _)
          have N2 : Hid (∀ (j : Nat) (u : Value), [Value.int .u32 z2][j]? = some u → (wr.alloc (.cells #[.int .u32 z2] 22)).cell? ((⟨wr.heap.size, 0, none⟩ : Addr).add j) = some u) := World.news_of_block (cs := #[.int .u32 z2]) (t := 22) (fr := (0, 0)) (by first | exact alloc_new _ _ _ | simpa using alloc_new (wr) #[.int .u32 z2] 22)
          have N3 : Hid (∀ u : Value, u ∈ [Value.int .u32 z2] → u.oneCell' = true) := by intro u hu; simp at hu; subst hu; rfl
          have N4 : zs.length + 1 ≤ maxLen := by unfold maxLen; omega
          have N5 : (zs.length + 1) * 4 ≤ 140737488355328 := by omega
          have N6 : Hid (w.heap.size + 1 ≤ (wr.alloc (.cells #[.int .u32 z2] 22)).heap.size) := by show _ ≤ _; rw [World.size_alloc]; have := (Array.getElem?_eq_some_iff.1 hS4.box).1; omega
          have HS : Hid (IdsS w (wr.alloc (.cells #[.int .u32 z2] 22)) xo 0 xr (some ⟨b1, o1, none⟩) n cx (.slice a' zs.length cap') zs) := hS4.below ((Below.refl _ _).alloc (Nat.le_refl _) _)
          go_wp2_with (at_builtin; refine wpList_append_own _ rfl (.tmp 27) (.tmp 34) 39 rfl (w.heap.size + 1) 22 i0 (.int .u32 0) 1 4 Try.underlying39 HI.out.1 HI.out.2.1 HI.out.2.2.1 HI.out.2.2.2 rfl (by decide) _ zs.length (zs.map (Value.int .u32)) rfl N1.out ⟨wr.heap.size, 0, none⟩ 1 1 [.int .u32 z2] rfl rfl N2.out N3.out N4 N5 N6.out ?_)
          intro v5 w5 hown5 hgr5 _
          have hS5 := HS.out.push hgr5 hown5
          obtain ⟨a6, cap6, rfl⟩ : ∃ a cap, v5 = .slice a (zs.length + 1) cap := by
            rcases hown5.2 with ⟨_, h0⟩ | ⟨g, cap, cur, rfl, _⟩
            · omega
            · exact ⟨_, _, rfl⟩
          clear hown5 hgr5 N1 N2 N3 N6 HS hS4 hS
          go_wp2
          go_roundw
          case rel => exact ⟨k + 1, by omega, by go_num, by rw [HS2.out, hA1]; exact hS5⟩
          case measure => simp [intOf]; omega
        · have hA1 : idsA (z1, z2, z3) = [] := by simp [idsA, h1]
          have HS4 : Hid (IdsS w wr xo 0 xr (some ⟨b1, o1, none⟩) n cx (.slice a' zs.length cap') zs) := hS4
          clear hS4
          go_wp2
          go_roundw
          case rel => exact ⟨k + 1, by omega, by go_num, by rw [HS2.out, hA1, List.append_nil]; exact HS4.out⟩
          case measure => simp [intOf]; omega
      · obtain rfl : k = n := by omega
        have hfin := hS.bel
        have hown := hS.own
        have c3 := (one_block hS.box).1 3
        clear hS hA
        go_wp2
        go_ret
        refine ⟨hfin, a', _, cap', rfl, rfl, ?_⟩
        refine ⟨hown.1, ?_⟩
        rcases hown.2 with hn0 | ⟨g, cap, cur, e1, hb, rest⟩
        · exact .inl hn0
        · exact .inr ⟨g, cap, cur, e1, by omega, rest⟩
  · have ht' := ht
    have N1 : Hid (((w.alloc (.cells #[.int .u16 xo, .int .u32 xt, .int .u32 xr, .slice ax n cx] 51)).alloc (.cells #[.int .u32 xt] 22)).ownsRow (w.heap.size + 1) 22 1 (.slice none 0 0) ([] : List Int).length ((([] : List Int)).map (Value.int .u32))) := own_below hS0.own ((Below.refl _ _).alloc (Nat.le_refl _) _)
    have N2 : Hid (∀ (j : Nat) (u : Value), [Value.int .u32 xt][j]? = some u → ((w.alloc (.cells #[.int .u16 xo, .int .u32 xt, .int .u32 xr, .slice ax n cx] 51)).alloc (.cells #[.int .u32 xt] 22)).cell? ((⟨w.heap.size + 1, 0, none⟩ : Addr).add j) = some u) := World.news_of_block (cs := #[.int .u32 xt]) (t := 22) (fr := (0, 0)) (by first | exact alloc_new _ _ _ | simpa using alloc_new ((w.alloc (.cells #[.int .u16 xo, .int .u32 xt, .int .u32 xr, .slice ax n cx] 51))) #[.int .u32 xt] 22)
    have N3 : Hid (∀ u : Value, u ∈ [Value.int .u32 xt] → u.oneCell' = true) := by intro u hu; simp at hu; subst hu; rfl
    have N4 : ([] : List Int).length + 1 ≤ maxLen := by unfold maxLen; simp
    have N5 : (([] : List Int).length + 1) * 4 ≤ 140737488355328 := by simp
    have N6 : Hid (w.heap.size + 1 ≤ ((w.alloc (.cells #[.int .u16 xo, .int .u32 xt, .int .u32 xr, .slice ax n cx] 51)).alloc (.cells #[.int .u32 xt] 22)).heap.size) := by show _ ≤ _; rw [World.size_alloc]; have := (Array.getElem?_eq_some_iff.1 hS0.box).1; omega
    have HS : Hid (IdsS w ((w.alloc (.cells #[.int .u16 xo, .int .u32 xt, .int .u32 xr, .slice ax n cx] 51)).alloc (.cells #[.int .u32 xt] 22)) xo xt xr ax n cx (.slice none 0 0) ([] : List Int)) := hS0.below ((Below.refl _ _).alloc (Nat.le_refl _) _)
    clear hS0
    go_enter Try.func51, Try.ntmps51
    go_wp2_with (at_builtin; refine wpList_append_own _ rfl (.tmp 8) (.tmp 11) 39 rfl (w.heap.size + 1) 22 i0 (.int .u32 0) 1 4 Try.underlying39 HI.out.1 HI.out.2.1 HI.out.2.2.1 HI.out.2.2.2 rfl (by decide) _ 0 [] rfl N1.out ⟨w.heap.size + 1, 0, none⟩ 1 1 [.int .u32 xt] rfl rfl N2.out N3.out N4 N5 N6.out ?_)
    intro v5 w5 hown5 hgr5 _
    have hS5 := HS.out.push hgr5 hown5
    obtain ⟨a5, cap5, rfl⟩ : ∃ a cap, v5 = .slice a 1 cap := by
      rcases hown5.2 with ⟨_, h0⟩ | ⟨g, cap, cur, rfl, _⟩
      · cases h0
      · exact ⟨_, _, rfl⟩
    have b3 := (one_block hS5.box).1 3
    have HS5 : Hid (IdsS w w5 xo xt xr ax n cx (.slice a5 1 cap5) [xt]) := hS5
    clear hown5 hgr5 N1 N2 N3 N6 HS N4 N5 hS5
    go_wp2
    go_loopw [3, 4] (fun v i wr => ∃ k : Nat, k ≤ n ∧ i = .int .i64 k ∧ IdsS w wr xo xt xr ax n cx v (idsTo xt xl k)) (fun _ i _ => n - (intOf i).toNat)
    case atStart => exact ⟨0, Nat.zero_le _, rfl, by rw [idsTo_zero, if_neg ht']; exact HS5.out⟩
    case round =>
      obtain ⟨k, hk, rfl, hS⟩ := hrel
      clear HS5
      have hA := hv.below hS.bel
      obtain ⟨a', cap', rfl⟩ : ∃ a cap, u3 = .slice a (idsTo xt xl k).length cap := by
        rcases hS.own.2 with ⟨rfl, h0⟩ | ⟨g, cap, cur, rfl, _⟩
        · exact ⟨none, 0, by rw [h0]⟩
        · exact ⟨_, _, rfl⟩
      by_cases hlt : k < n
      · have hkl : k < xl.length := by rw [HL.out]; exact hlt
        obtain ⟨b1, o1, rfl, hb1, p1, p2, p3⟩ := hA k hkl
        have hsu := idsTo_succ xt xl k hkl
        have hln := idsTo_len xt xl k
        have HSU : Hid _ := hsu
        generalize idsTo xt xl k = zs at *
        have HS2 : Hid (idsTo xt xl (k + 1) = zs ++ idsA (nthA xl k)) := HSU.out
        clear hsu HSU
        generalize nthA xl k = z at *
        obtain ⟨z1, z2, z3⟩ := z
        simp only at *
        have hki : (k : Int) < (n : Int) := by omega
        have hk0 : (0 : Int) ≤ (k : Int) := by omega
        have hS4 := hS
        have c3 := (one_block hS.box).1 3
        clear hA
        by_cases h1 : z1 = 1
        · subst h1
          have hA1 : idsA (1, z2, z3) = [z2] := by simp [idsA]
          have N1 : Hid ((wr.alloc (.cells #[.int .u32 z2] 22)).ownsRow (w.heap.size + 1) 22 1 (.slice a' zs.length cap') zs.length ((zs).map (Value.int .u32))) := own_below hS4.own ((Below.refl _ _).alloc (Nat.le_refl _) _)
          have N2 : Hid (∀ (j : Nat) (u : Value), [Value.int .u32 z2][j]? = some u → (wr.alloc (.cells #[.int .u32 z2] 22)).cell? ((⟨wr.heap.size, 0, none⟩ : Addr).add j) = some u) := World.news_of_block (cs := #[.int .u32 z2]) (t := 22) (fr := (0, 0)) (by first | exact alloc_new _ _ _ | simpa using alloc_new (wr) #[.int .u32 z2] 22)
          have N3 : Hid (∀ u : Value, u ∈ [Value.int .u32 z2] → u.oneCell' = true) := by intro u hu; simp at hu; subst hu; rfl
          have N4 : zs.length + 1 ≤ maxLen := by unfold maxLen; omega
          have N5 : (zs.length + 1) * 4 ≤ 140737488355328 := by omega
          have N6 : Hid (w.heap.size + 1 ≤ (wr.alloc (.cells #[.int .u32 z2] 22)).heap.size) := by show _ ≤ _; rw [World.size_alloc]; have := (Array.getElem?_eq_some_iff.1 hS4.box).1; omega
          have HS : Hid (IdsS w (wr.alloc (.cells #[.int .u32 z2] 22)) xo xt xr (some ⟨b1, o1, none⟩) n cx (.slice a' zs.length cap') zs) := hS4.below ((Below.refl _ _).alloc (Nat.le_refl _) _)
          go_wp2_with (at_builtin; refine wpList_append_own _ rfl (.tmp 27) (.tmp 34) 39 rfl (w.heap.size + 1) 22 i0 (.int .u32 0) 1 4 Try.underlying39 HI.out.1 HI.out.2.1 HI.out.2.2.1 HI.out.2.2.2 rfl (by decide) _ zs.length (zs.map (Value.int .u32)) rfl N1.out ⟨wr.heap.size, 0, none⟩ 1 1 [.int .u32 z2] rfl rfl N2.out N3.out N4 N5 N6.out ?_)
          intro v5 w5 hown5 hgr5 _
          have hS5 := HS.out.push hgr5 hown5
          obtain ⟨a6, cap6, rfl⟩ : ∃ a cap, v5 = .slice a (zs.length + 1) cap := by
            rcases hown5.2 with ⟨_, h0⟩ | ⟨g, cap, cur, rfl, _⟩
            · omega
            · exact ⟨_, _, rfl⟩
          clear hown5 hgr5 N1 N2 N3 N6 HS hS4 hS
          go_wp2
          go_roundw
          case rel => exact ⟨k + 1, by omega, by go_num, by rw [HS2.out, hA1]; exact hS5⟩
          case measure => simp [intOf]; omega
        · have hA1 : idsA (z1, z2, z3) = [] := by simp [idsA, h1]
          have HS4 : Hid (IdsS w wr xo xt xr (some ⟨b1, o1, none⟩) n cx (.slice a' zs.length cap') zs) := hS4
          clear hS4
          go_wp2
          go_roundw
          case rel => exact ⟨k + 1, by omega, by go_num, by rw [HS2.out, hA1, List.append_nil]; exact HS4.out⟩
          case measure => simp [intOf]; omega
      · obtain rfl : k = n := by omega
        have hfin := hS.bel
        have hown := hS.own
        have c3 := (one_block hS.box).1 3
        clear hS hA
        go_wp2
        go_ret
        refine ⟨hfin, a', _, cap', rfl, rfl, ?_⟩
        refine ⟨hown.1, ?_⟩
        rcases hown.2 with hn0 | ⟨g, cap, cur, e1, hb, rest⟩
        · exact .inl hn0
        · exact .inr ⟨g, cap, cur, e1, by omega, rest⟩

end Go.Proofs.Ytmobologlaeefac

/-
  Uses of the package ids, and the document's Uses: the places of the instructions that name an id.
-/
namespace Go.Proofs.Ytmobologlaeefac
open Go.RowKit
set_option linter.unusedVariables false
set_option linter.unusedSimpArgs false
set_option maxRecDepth 10000

theorem IntsU.info : (Try.prog.info? 3).map (fun i => (i.zero, i.size, i.bytes)) = some (some (.int .i64 0), 1, 8) := by kernel_rfl

/-- A row of places while it is built, behind three boxes, the third at B. -/
structure UseS (w wr : World) (B : Nat) (gen bnd : Int) (a : Option Addr) (n c : Nat) (v : Value) (zs : List Int) : Prop where
  own : wr.ownsRow (B + 1) 3 1 v zs.length (zs.map (Value.int .i64))
  mbox : wr.heap[w.heap.size]? = some (.cells #[.int .u32 gen, .int .u32 bnd, .slice a n c] 25 (0, 0))
  sbox : wr.heap[w.heap.size + 1]? = some (.cells #[.int .i64 0, .int .i64 0] 29 (0, 0))
  tbox : wr.heap[B]? = some (.cells #[.int .i64 0, .int .i64 0] 29 (0, 0))
  bel : Below w.heap.size w wr
  lt : w.heap.size + 1 < B
theorem UseS.below {w wr wr' : World} {B : Nat} {gen bnd : Int} {a : Option Addr} {n c : Nat} {v : Value} {zs : List Int} (h : UseS w wr B gen bnd a n c v zs) (hb : Below wr.heap.size wr wr') : UseS w wr' B gen bnd a n c v zs :=
  ⟨own_below h.own hb, (hb.block _ (Array.getElem?_eq_some_iff.1 h.mbox).1).trans h.mbox, (hb.block _ (Array.getElem?_eq_some_iff.1 h.sbox).1).trans h.sbox, (hb.block _ (Array.getElem?_eq_some_iff.1 h.tbox).1).trans h.tbox, h.bel.trans (hb.mono h.bel.size), h.lt⟩
theorem UseS.push {w wr w5 : World} {B : Nat} {gen bnd : Int} {a : Option Addr} {n c : Nat} {v v' : Value} {zs : List Int} {y : Int} (h : UseS w wr B gen bnd a n c v zs) (hg : wr.grownBy w5 v.ownBlock) (hown : w5.ownsRow (B + 1) 3 1 v' (zs.length + 1) (zs.map (Value.int .i64) ++ [.int .i64 y])) : UseS w w5 B gen bnd a n c v' (zs ++ [y]) := by
  have hlo : ∀ g, v.ownBlock = some g → B + 1 ≤ g := fun g e => (h.own.lt g e).1
  have hlt := h.lt
  have kk : ∀ i, i < B + 1 → i < wr.heap.size → w5.heap[i]? = wr.heap[i]? := fun i h1 h2 => hg.block i h2 (fun e => by have := hlo _ e.symm; omega)
  refine ⟨?_, ?_, ?_, ?_, ?_, hlt⟩
  · rw [List.length_append, List.map_append]; exact hown
  · exact (kk _ (by omega) (Array.getElem?_eq_some_iff.1 h.mbox).1).trans h.mbox
  · exact (kk _ (by omega) (Array.getElem?_eq_some_iff.1 h.sbox).1).trans h.sbox
  · exact (kk _ (by omega) (Array.getElem?_eq_some_iff.1 h.tbox).1).trans h.tbox
  · exact h.bel.grown hg h.bel.size (fun k e => by have := hlo k e; omega)
theorem own_shapeU {w : World} {lo e size n : Nat} {v : Value} {xs : List Value} (h : w.ownsRow lo e size v n xs) : ∃ a c, v = .slice a n c := by
  rcases h.2 with ⟨rfl, h0⟩ | ⟨g, cap, cur, rfl, _⟩
  · exact ⟨none, 0, by rw [h0]⟩
  · exact ⟨_, _, rfl⟩
theorem own_lowU {w : World} {lo lo' e size n : Nat} {v : Value} {xs : List Value} (h : w.ownsRow lo e size v n xs) (hl : lo' ≤ lo) : w.ownsRow lo' e size v n xs := by
  refine ⟨h.1, ?_⟩
  rcases h.2 with hn0 | ⟨g, cap, cur, e1, hb, rest⟩
  · exact .inl hn0
  · exact .inr ⟨g, cap, cur, e1, by omega, rest⟩

/-- What Uses answers. -/
def UsesQ (w w' : World) (zs : List Int) (s : Int × Nat) (e : Ending) : Prop :=
  ∃ a m c, e = .returned (.tuple #[.slice a m c, .agg #[.int .i64 s.1, .int .i64 s.2]]) ∧ zs.length = m ∧ View .i64 w' a zs ∧ Below w.heap.size w w'

set_option maxHeartbeats 4000000 in
/-- Does an instruction name an id, by the document? -/
theorem refNames9_any (x : InstT) (id : Int) (ax : Option Addr) (n cx : Nat) (w : World) (hv : ArgsV w ax x.2.2.2) (hl : x.2.2.2.length = n) (hn : 24 * n ≤ 140737488351232) :
    Calls Try.prog 32 #[instV x ax n cx, .int .u32 id] w fun e w' => e = .returned (.bool (decide (id ∈ idsI x))) ∧ Below w.heap.size w w' := by
  have hI := fun wx (h : ArgsV wx ax x.2.2.2) => refIds_any x ax n cx wx h hl hn
  have hil : (idsI x).length ≤ 1 + n := by have := idsTo_len x.2.1 x.2.2.2 x.2.2.2.length; unfold idsI; omega
  have hb0 : Below w.heap.size w (w.alloc (.cells #[.int .u16 x.1, .int .u32 x.2.1, .int .u32 x.2.2.1, .slice ax n cx] 51)) := (Below.refl _ w).alloc (Nat.le_refl _) _
  have hI' := hI _ (hv.below hb0)
  obtain ⟨xo, xt, xr, xl⟩ := x
  unfold instV at *
  simp only at *
  generalize idsI (xo, xt, xr, xl) = zs at *
  have HR : Hid (∀ k, k < zs.length → (id ∈ zs.take (k + 1) ↔ id ∈ zs.take k ∨ nth zs k = id)) := fun k hk => mem_take_nth hk
  have HT : Hid (zs.take zs.length = zs) := List.take_length
  have HS : Hid (∀ k, id ∈ zs.take k → id ∈ zs) := fun k h => List.mem_of_mem_take h
  generalize hr : decide (id ∈ zs) = r at *
  have HRR : Hid (r = true ↔ id ∈ zs) := by show _ ↔ _; rw [← hr]; simp
  clear hI hv hr
  go_enter Try.func32, Try.ntmps32
  go_wp2_with fail
  refine hI'.mono ?_
  rintro e w1 ⟨hb1, a1, m1, c1, rfl, hm1, hown1⟩
  have hV := View.ofOwn hown1 hm1
  have HB := hide (hb0.trans (hb1.mono hb0.size))
  have HM := hide hm1
  have hm1n : m1 ≤ 1 + n := by omega
  clear hI' hb1 hown1 hb0 hil hm1
  go_wp2_with fail
  go_loopw [6] (fun i wr => ∃ k : Nat, k ≤ m1 ∧ i = .int .i64 k ∧ ¬ id ∈ zs.take k ∧ wr = w1) (fun i _ => m1 - (intOf i).toNat)
  case atStart => exact ⟨0, Nat.zero_le _, rfl, by simp, rfl⟩
  case round =>
    obtain ⟨k, hk, rfl, hnot, rfl⟩ := hrel
    by_cases hlt : k < m1
    · obtain ⟨b1, o1, rfl, _, p1⟩ := hV k (by rw [HM.out]; exact hlt)
      have hk0 : (0 : Int) ≤ (k : Int) := by omega
      have hki : (k : Int) < (m1 : Int) := by omega
      have hm := HR.out k (by rw [HM.out]; exact hlt)
      clear hV
      generalize nth zs k = y at *
      by_cases hy : y = id
      · have HX := hide (HRR.out.2 (HS.out (k + 1) (hm.2 (.inr hy))))
        subst hy
        have hyy : (y == y) = true := by simp
        clear hm hnot
        go_wp2_with fail
        go_ret
        exact ⟨by rw [HX.out]; rfl, HB.out⟩
      · have hyz : (y == id) = false := by simpa using hy
        have HX : Hid (¬ id ∈ zs.take (k + 1)) := fun h => by rcases hm.1 h with h | h; exact hnot h; exact hy h
        clear hm hnot hy
        go_wp2_with fail
        go_roundw
        case rel => exact ⟨k + 1, by omega, by go_num, HX.out, by first | rfl | trivial⟩
        case measure => simp [intOf]; omega
    · obtain rfl : k = m1 := by omega
      have e1 := HT.out
      rw [HM.out] at e1
      rw [e1] at hnot
      have HX : Hid (r = false) := by
        cases r with
        | true => exact absurd (HRR.out.1 rfl) hnot
        | false => rfl
      clear hV hnot e1
      go_wp2_with fail
      go_ret
      exact ⟨by rw [HX.out]; rfl, HB.out⟩

set_option maxHeartbeats 8000000 in
theorem idsUses_any (gen bnd id : Int) (a : Option Addr) (n c : Nat) (l : List InstT) (w : World) (hv : InstsV w a l) (hok : InstsOk l) (hl : l.length = n) (hn : 40 * n ≤ 140737488351232) (g0 : 0 ≤ gen) (g1 : gen < 4294967296) (b0 : 0 ≤ bnd) (b1 : bnd < 4294967296) :
    Calls Try.prog 13 #[modV gen bnd a n c, .int .u32 id] w fun e w' => UsesQ w w' (usesL bnd l id) (shapeE bnd l) e := by
  obtain ⟨i0, hi, hz0, hz1, hz2⟩ := info_parts IntsU.info
  have HI : Hid (Try.prog.info? 3 = some i0 ∧ i0.zero = some (.int .i64 0) ∧ i0.size = 1 ∧ i0.bytes = 8) := ⟨hi, hz0, hz1, hz2⟩
  clear hi hz0 hz1 hz2
  have hb0 : Below w.heap.size w ((w.alloc (.cells #[.int .u32 gen, .int .u32 bnd, .slice a n c] 25)).alloc (.cells #[.int .i64 0, .int .i64 0] 29)) := ((Below.refl _ w).alloc (Nat.le_refl _) _).alloc (by simp) _
  have hSh := codeShape_any gen bnd a n c l _ g0 g1 b0 b1 (hv.below hb0) hok hl hn
  have k0 : ((w.alloc (.cells #[.int .u32 gen, .int .u32 bnd, .slice a n c] 25)).alloc (.cells #[.int .i64 0, .int .i64 0] 29)).heap[w.heap.size]? = some (.cells #[.int .u32 gen, .int .u32 bnd, .slice a n c] 25 (0, 0)) := by rw [Below.heap_alloc _ _ _ (by simp)]; exact heap_alloc_new _ _
  have k1 : ((w.alloc (.cells #[.int .u32 gen, .int .u32 bnd, .slice a n c] 25)).alloc (.cells #[.int .i64 0, .int .i64 0] 29)).heap[w.heap.size + 1]? = some (.cells #[.int .i64 0, .int .i64 0] 29 (0, 0)) := by have := heap_alloc_new (w.alloc (.cells #[.int .u32 gen, .int .u32 bnd, .slice a n c] 25)) (.cells #[.int .i64 0, .int .i64 0] 29); simpa using this
  have HS1 := hide (And.intro k0 k1)
  have hs1 : ((w.alloc (.cells #[.int .u32 gen, .int .u32 bnd, .slice a n c] 25)).alloc (.cells #[.int .i64 0, .int .i64 0] 29)).heap.size = w.heap.size + 2 := by simp
  have HZ := hide hs1
  have HB0 := hide hb0
  have HV := hide hv
  have HOK := hide hok
  have HL := hide hl
  have HN : Hid (40 * n ≤ 140737488351232) := hn
  unfold usesL
  rcases shapeE_any bnd l with hE | hE
  · rw [if_pos (by rw [hE]), hE]
    rw [hE] at hSh
    unfold modV at *
    clear hE hb0 hv hok hl k0 k1 hs1 hn
    go_enter Try.func13, Try.ntmps13
    go_wp2_with fail
    generalize (w.alloc (.cells #[.int .u32 gen, .int .u32 bnd, .slice a n c] 25)).alloc (.cells #[.int .i64 0, .int .i64 0] 29) = W0 at *
    refine hSh.mono ?_
    rintro e w1 ⟨rfl, hb1⟩
    have hba : Below w1.heap.size w1 (w1.alloc (.cells #[.int .i64 0, .int .i64 0] 29)) := (Below.refl _ w1).alloc (Nat.le_refl _) _
    have hbx := hb1.trans (hba.mono hb1.size)
    have q0 := (hbx.block _ (by rw [HZ.out]; omega)).trans HS1.out.1
    have q1 := (hbx.block _ (by rw [HZ.out]; omega)).trans HS1.out.2
    have HQ := hide (And.intro q0 q1)
    have HBX := hide (HB0.out.trans (hbx.mono HB0.out.size))
    have HW1 : Hid (w.heap.size + 2 ≤ w1.heap.size) := by show _ ≤ _; rw [← HZ.out]; exact hb1.size
    have m2 := (one_block q0).1 2
    have HT := hide (heap_alloc_new w1 (.cells #[.int .i64 0, .int .i64 0] 29))
    clear hSh hb1 hba hbx q0 q1 HS1 HB0
    go_wp2_with fail
    generalize w1.alloc (.cells #[.int .i64 0, .int .i64 0] 29) = W1 at *
    have hU0 : UseS w W1 w1.heap.size gen bnd a n c (.slice none 0 0) (usesTo l id 0) := ⟨World.ownsRow_nil _ _ _ _, HQ.out.1, HQ.out.2, HT.out, HBX.out, by have := HW1.out; omega⟩
    have HU0 := hide hU0
    generalize w1.heap.size = B at *
    clear hU0 m2
    go_loopw [7, 19] (fun v i wr => ∃ k : Nat, k ≤ n ∧ i = .int .i64 k ∧ UseS w wr B gen bnd a n c v (usesTo l id k)) (fun _ i _ => n - (intOf i).toNat)
    case atStart => exact ⟨0, Nat.zero_le _, rfl, HU0.out⟩
    case round =>
      obtain ⟨k, hk, rfl, hS⟩ := hrel
      clear HU0
      obtain ⟨a', cap', rfl⟩ := own_shapeU hS.own
      have hlk := usesTo_len l id k
      have hA := HV.out.below hS.bel
      have hkb : (k : Int) < 140737488351232 := by have := HN.out; omega
      by_cases hlt : k < n
      · have hkl : k < l.length := by rw [HL.out]; exact hlt
        obtain ⟨g1, o1, aj, cj, nj, rfl, hg1, p1, p2, p3, p4, p5, p6, p7⟩ := hA k hkl
        have hki : (k : Int) < (n : Int) := by omega
        have hk0 : (0 : Int) ≤ (k : Int) := by omega
        have hz := HOK.out k hkl
        have hnj : 24 * nj ≤ 140737488351232 := by have := hz.2.2.2.2.2.2.2; omega
        have HSU : Hid (usesTo l id (k + 1) = usesTo l id k ++ (if id ∈ idsI (nthI l k) then [(k : Int)] else [])) := rfl
        generalize nthI l k = z at *
        have hcI := fun (wx : World) (hx : ArgsV wx aj z.2.2.2) => codeIds_any z aj nj cj wx hx p5 hnj
        have hil : (idsI z).length ≤ 1 + nj := by have := idsTo_len z.2.1 z.2.2.2 z.2.2.2.length; unfold idsI; omega
        have hba : Below wr.heap.size wr (wr.alloc (.cells #[.int .u16 z.1, .int .u32 z.2.1, .int .u32 z.2.2.1, .slice aj nj cj] 51)) := (Below.refl _ wr).alloc (Nat.le_refl _) _
        have hcI' := hcI _ (p6.below hba)
        have HS2 := hide (hS.below hba)
        clear hcI hA hS p5 p6 p7 hz
        generalize idsI z = is at *
        obtain ⟨zo, zt, zr, zl⟩ := z
        unfold instV at hcI'
        simp only at *
        generalize usesTo l id k = zs at *
        go_wp2_with fail
        generalize wr.alloc (.cells #[.int .u16 zo, .int .u32 zt, .int .u32 zr, .slice aj nj cj] 51) = W2 at *
        refine hcI'.mono ?_
        rintro e w3 ⟨hb3, a3, m3, c3, rfl, hm3, hown3⟩
        have hCo := contains32_any a3 m3 c3 is id w3 (View.ofOwn hown3 hm3) hm3 (by omega)
        have HS3 := hide (HS2.out.below hb3)
        clear hcI' hb3 hown3 hm3
        go_wp2_with fail
        refine hCo.mono ?_
        rintro e w4 ⟨rfl, rfl⟩
        clear hCo
        by_cases hin : id ∈ is
        · have hd : decide (id ∈ is) = true := by simpa using hin
          rw [hd]
          rw [if_pos hin] at HSU
          have hba4 : Below w3.heap.size w3 (w3.alloc (.cells #[.int .i64 (k : Int)] 3)) := (Below.refl _ w3).alloc (Nat.le_refl _) _
          have HS4 := hide (HS3.out.below hba4)
          have N1 : Hid ((w3.alloc (.cells #[.int .i64 (k : Int)] 3)).ownsRow (B + 1) 3 1 (.slice a' zs.length cap') zs.length (zs.map (Value.int .i64))) := HS4.out.own
          have N6 : Hid (B + 1 ≤ (w3.alloc (.cells #[.int .i64 (k : Int)] 3)).heap.size) := by show _ ≤ _; have := (Array.getElem?_eq_some_iff.1 HS4.out.tbox).1; omega
          have N4 : zs.length + 1 ≤ maxLen := by have := HN.out; unfold maxLen; omega
          have N5 : (zs.length + 1) * 8 ≤ 140737488355328 := by have := HN.out; omega
          have HN4 := hide N4
          have HN5 := hide N5
          clear hba4 hin hd HS3 HS2 N4 N5 hnj hil hlk
          go_wp2_with (at_builtin; refine wpList_append_own _ rfl (.tmp 28) (.tmp 30) 26 rfl (B + 1) 3 i0 (.int .i64 0) 1 8 Try.underlying26 HI.out.1 HI.out.2.1 HI.out.2.2.1 HI.out.2.2.2 rfl (by decide) _ zs.length (zs.map (Value.int .i64)) rfl N1.out ⟨w3.heap.size, 0, none⟩ 1 1 [.int .i64 (k : Int)] rfl rfl (cell_one_new _ _ _) (ints_oneCell .i64 [(k : Int)]) HN4.out HN5.out N6.out ?_)
          intro v5 w5 hown5 hgr5 _
          have HS5 := hide (HS4.out.push hgr5 hown5)
          clear hown5 hgr5 N1 N6 HS4
          go_wp2_with fail
          go_roundw
          case rel => exact ⟨k + 1, by omega, by go_num, by rw [HSU.out]; exact HS5.out⟩
          case measure => simp [intOf]; omega
        · have hd : decide (id ∈ is) = false := by simpa using hin
          rw [hd]
          rw [if_neg hin, List.append_nil] at HSU
          clear hin hd HS2
          go_wp2_with fail
          go_roundw
          case rel => exact ⟨k + 1, by omega, by go_num, by rw [HSU.out]; exact HS3.out⟩
          case measure => simp [intOf]; omega
      · obtain rfl : k = n := by omega
        have hq := hS.sbox
        obtain ⟨d0, d1, dF⟩ := cell_of_two hq
        have f0 : wr.frozen? ⟨w.heap.size + 1, 0, none⟩ = false := by simp [World.frozen?, hq]
        have HV2 := hide (View.ofOwn hS.own rfl)
        have HB2 := hide hS.bel
        have HLN := hide HL.out
        have k2 := two_put2 hq (.int .i64 0) (.int .i64 0)
        have HVX := hide (View.ofOwn (ownsRow_setCell_below (ownsRow_setCell_below hS.own (a := ⟨w.heap.size + 1, 0, none⟩) (by simp; have := hS.lt; omega) (.int .i64 0)) (a := ⟨w.heap.size + 1, 1, none⟩) (by simp; have := hS.lt; omega) (.int .i64 0)) rfl)
        have HBX2 := hide ((hS.bel.setCell (p := ⟨w.heap.size + 1, 0, none⟩) (by simp) (.int .i64 0)).setCell (p := ⟨w.heap.size + 1, 1, none⟩) (by simp) (.int .i64 0))
        have HK2 := hide k2
        clear hS hA hq k2
        go_wp2_with fail
        generalize (wr.setCell ⟨w.heap.size + 1, 0, none⟩ (.int .i64 0)).setCell ⟨w.heap.size + 1, 1, none⟩ (.int .i64 0) = Y at *
        obtain ⟨r0, r1, _⟩ := cell_of_two HK2.out
        refine bodyPost_ret (v := .tuple #[.slice a' (usesTo l id k).length cap', .agg #[.int .i64 0, .int .i64 0]]) (by simp [results, Try.results13, go_sem, r0, r1]) rfl ?_
        exact ⟨a', (usesTo l id k).length, cap', by simp, by rw [HLN.out], by rw [HLN.out]; exact HVX.out, HBX2.out⟩
  · rw [if_neg hE]
    generalize shapeE bnd l = E at *
    obtain ⟨E1, E2⟩ := E
    simp only at hE hSh
    have hE' : (E1 != 0) = true := by simpa using hE
    unfold modV at *
    clear hb0 hv hok hl k0 k1 hs1 hn hE
    go_enter Try.func13, Try.ntmps13
    go_wp2_with fail
    generalize (w.alloc (.cells #[.int .u32 gen, .int .u32 bnd, .slice a n c] 25)).alloc (.cells #[.int .i64 0, .int .i64 0] 29) = W0 at *
    refine hSh.mono ?_
    rintro e w1 ⟨rfl, hb1⟩
    have hba : Below w1.heap.size w1 (w1.alloc (.cells #[.int .i64 E1, .int .i64 E2] 29)) := (Below.refl _ w1).alloc (Nat.le_refl _) _
    have hbx := hb1.trans (hba.mono hb1.size)
    have q1 := (hbx.block _ (by rw [HZ.out]; omega)).trans HS1.out.2
    have HBX := hide (HB0.out.trans (hbx.mono HB0.out.size))
    have HW1 : Hid (w.heap.size + 2 ≤ w1.heap.size) := by show _ ≤ _; rw [← HZ.out]; exact hb1.size
    have HT := hide (heap_alloc_new w1 (.cells #[.int .i64 E1, .int .i64 E2] 29))
    have HQ := hide q1
    clear hSh hb1 hba hbx q1 HS1 HB0
    go_wp2_with fail
    generalize w1.alloc (.cells #[.int .i64 E1, .int .i64 E2] 29) = W1 at *
    generalize w1.heap.size = B at *
    obtain ⟨t0, t1, _⟩ := cell_of_two HT.out
    obtain ⟨d0, d1, dF⟩ := cell_of_two HQ.out
    have f0 : W1.frozen? ⟨w.heap.size + 1, 0, none⟩ = false := by simp [World.frozen?, HQ.out]
    have hne : B ≠ w.heap.size + 1 := by have := HW1.out; omega
    refine wp_norm ?_
    go_region
    all_goals
      rw [onNormal_normal]
      go_wp2_with fail
      have k2 := two_put2 HQ.out (.int .i64 E1) (.int .i64 E2)
      have hb2 := (HBX.out.setCell (p := ⟨w.heap.size + 1, 0, none⟩) (by simp) (.int .i64 E1)).setCell (p := ⟨w.heap.size + 1, 1, none⟩) (by simp) (.int .i64 E2)
      obtain ⟨r0, r1, _⟩ := cell_of_two k2
      refine bodyPost_ret (v := .tuple #[.slice none 0 0, .agg #[.int .i64 E1, .int .i64 E2]]) (by first | (simp [results, Try.results13, go_sem, r0, r1]; done) | (simp [results, Try.results13, go_sem, World.drew] at *; simp [r0, r1])) rfl ?_
      exact ⟨none, 0, 0, by simp, rfl, fun j hj => by simp at hj, by first | exact hb2 | exact hb2.drew⟩

end Go.Proofs.Ytmobologlaeefac
