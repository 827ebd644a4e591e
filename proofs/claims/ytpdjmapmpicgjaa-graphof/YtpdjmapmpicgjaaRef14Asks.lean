/-
  What the document's graph answers: Len, Next, Ahead, Walk, Order.
-/
import Derived.WalkSpells
import Derived.WalkMore
import Derived.OwnWalk
import Derived.Test.YtpdjmapmpicgjaaProg
import Derived.Test.YtpdjmapmpicgjaaBoxes
import Derived.Test.YtpdjmapmpicgjaaGraphAsks
import Derived.Test.YtpdjmapmpicgjaaRef14Of
import Derived.Test.YtpdjmapmpicgjaaRef14Walk
namespace Go.Proofs.Ytpdjmapmpicgjaa
open Go.RowKit
set_option linter.unusedVariables false
set_option linter.unusedSimpArgs false
set_option maxRecDepth 10000

/-- The document's graph, whole. -/
structure RfG (w : World) (B lo : Nat) (N : List (List Int)) : Prop where
  mem : RfB w B lo N
  edges : Edges N.length N
  few : N.length ≤ 4096
  some_ : 0 < N.length
  once : ∀ j, (rowN N j).Nodup
theorem RfG.below {w w' : World} {B lo : Nat} {N : List (List Int)} (h : RfG w B lo N) (hb : Below w.heap.size w w') : RfG w' B lo N := ⟨h.mem.below hb, h.edges, h.few, h.some_, h.once⟩
theorem RfG.rows {w : World} {B lo : Nat} {N : List (List Int)} (h : RfG w B lo N) (j : Nat) : (rowN N j).length ≤ 4096 := Nat.le_trans (nodup_len N.length _ (h.once j) (fun x hx => h.edges j x hx)) h.few
/-- Its cells. -/
theorem RfG.open {w : World} {B lo : Nat} {N : List (List Int)} (h : RfG w B lo N) : ∃ a c, w.heap[B]? = some (.cells #[.slice a N.length c] 59 (0, 0)) ∧ LV w a N := by
  obtain ⟨nv, h1, h2⟩ := h.mem.mem
  obtain ⟨a, c, rfl, _, h3, _⟩ := h2.head
  exact ⟨a, c, h1, h3⟩

theorem refLen14_any (w : World) (B lo : Nat) (N : List (List Int)) (h : RfG w B lo N) : Calls Try.prog 32 #[.pointer (some ⟨B, 0, none⟩)] w fun e w' => e = .returned (.int .i64 N.length) ∧ w = w' := by
  obtain ⟨a, c, h1, _⟩ := h.open
  have c0 := (oneCell h1).1
  clear h h1
  go_enter Try.func32, Try.ntmps32
  go_wp2
  go_ret
  exact ⟨rfl, rfl⟩
theorem refLen14_nil (w : World) : Calls Try.prog 32 #[.pointer none] w fun e w' => e = .returned (.int .i64 0) ∧ w = w' := by
  go_enter Try.func32, Try.ntmps32
  go_wp2
  go_ret
  exact ⟨rfl, rfl⟩

/-- The walk, from a walker that is new. -/
theorem refTo_start (w : World) (B lo : Nat) (N : List (List Int)) (h : RfG w B lo N) : Calls Try.prog 38 #[.pointer (some ⟨w.heap.size, 0, none⟩), .pointer (some ⟨B, 0, none⟩), .int .i64 0] (w.alloc (.cells #[.slice none 0 0, .slice none 0 0] 64)) fun e w' => e = .returned (.tuple #[]) ∧ ∃ cv lv, w'.heap[w.heap.size]? = some (.cells #[cv, lv] 64 (0, 0)) ∧ w'.ownsRow w.heap.size 3 1 cv (walkF N).1.length ((walkF N).1.map (Value.int .i64)) ∧ w'.ownsRow w.heap.size 3 1 lv (walkF N).2.length ((walkF N).2.map (Value.int .i64)) ∧ Below w.heap.size w w' := by
  obtain ⟨nv, h1, h2⟩ := h.mem.mem
  have hba : Below w.heap.size w (w.alloc (.cells #[.slice none 0 0, .slice none 0 0] 64)) := (Below.refl _ _).alloc (Nat.le_refl _) _
  have hk := allocNew w (.cells #[.slice none 0 0, .slice none 0 0] 64) rfl
  have hBl := (Array.getElem?_eq_some_iff.1 h1).1
  have hC : RkC _ w.heap.size B lo N.length nv N := ⟨⟨_, _, hk⟩, allocOld h1 _, by omega, h2.below hba, rfl, h.few, h.edges, h.rows⟩
  have hS : RkS (w.alloc (.cells #[.slice none 0 0, .slice none 0 0] 64)) w.heap.size (w.alloc (.cells #[.slice none 0 0, .slice none 0 0] 64)) (.slice none 0 0) (.slice none 0 0) [] [] := ⟨hk, World.ownsRow_nil _ _ _ _, World.ownsRow_nil _ _ _ _, fun g e => by simp [Value.ownBlock] at e, World.grownBy.refl _ _, by rw [World.size_alloc]; omega⟩
  have hcall := refTo_any _ w.heap.size B lo N.length nv N hC N.length 0 ([], []) _ _ _ ⟨by simp, fun x hx => by simp at hx⟩ (by simp) (by omega) (by have := h.some_; omega) (by simp) (by simp) hS
  refine hcall.mono ?_
  rintro e w' ⟨rfl, cv, lv, hS'⟩
  exact ⟨rfl, cv, lv, hS'.blk, own_mono hS'.came (by rw [World.size_alloc]; omega), own_mono hS'.left (by rw [World.size_alloc]; omega), hba.grown hS'.grown hba.size (fun j e => by cases e; exact Nat.le_refl _)⟩

set_option maxHeartbeats 2000000 in
theorem refWalk14_any (w : World) (B lo : Nat) (N : List (List Int)) (h : RfG w B lo N) : Calls Try.prog 15 #[.pointer (some ⟨B, 0, none⟩)] w fun e w' => AnsI w w' e (walkF N).1 := by
  have hs := refTo_start w B lo N h
  have hL := refLen14_any _ B lo N (h.below ((Below.refl w.heap.size w).alloc (Nat.le_refl _) (.cells #[.slice none 0 0, .slice none 0 0] 64)))
  have h0 : (0 : Int) < (N.length : Int) := by have := h.some_; omega
  generalize (walkF N).1 = zs at *
  have HS := hide hs
  clear h hs
  go_enter Try.func15, Try.ntmps15
  go_wp2_with fail
  refine hL.mono ?_
  rintro e w1 ⟨rfl, rfl⟩
  clear hL
  go_wp2_with fail
  refine HS.out.mono ?_
  rintro e w2 ⟨rfl, cv, lv, k2, hc, hl, hb⟩
  obtain ⟨ca, cc, rfl⟩ := own_shapeG hc
  obtain ⟨c0, _⟩ := twoCells k2
  have HO := hide (And.intro hc hb)
  clear hc hl hb HS k2
  go_wp2_with fail
  go_ret
  exact ⟨_, rfl, HO.out.1, HO.out.2⟩

set_option maxHeartbeats 4000000 in
theorem refNext14_any (i : Int) (w : World) (B lo : Nat) (N : List (List Int)) (h : RfG w B lo N) : Calls Try.prog 33 #[.pointer (some ⟨B, 0, none⟩), .int .i64 i] w fun e w' => AnsI w w' e (nextL N i) := by
  have hL := refLen14_any w B lo N h
  cases hn : nodeB N.length i with
  | false =>
    have HE : Hid (nextL N i = []) := by show _ = _; unfold nextL; rw [hn]; rfl
    have hcase : decide (i < 0) = true ∨ (decide (i < 0) = false ∧ decide ((N.length : Int) ≤ i) = true) := by
      unfold nodeB at hn
      have := of_decide_eq_false hn
      by_cases h : i < 0
      · exact .inl (decide_eq_true h)
      · exact .inr ⟨decide_eq_false h, decide_eq_true (by omega)⟩
    clear h hn
    rcases hcase with hc1 | ⟨hc1, hc2⟩
    · clear hL
      go_enter Try.func33, Try.ntmps33
      go_wp2_with fail
      go_ret
      rw [HE.out]
      exact ansI_nil w
    · go_enter Try.func33, Try.ntmps33
      go_wp2_with fail
      refine hL.mono ?_
      rintro e w1 ⟨rfl, rfl⟩
      go_wp2_with fail
      go_ret
      rw [HE.out]
      exact ansI_nil w
  | true =>
    obtain ⟨k, hk, rfl⟩ := nodeB_true hn
    have HE : Hid (nextL N (k : Int) = rowN N k) := by show _ = _; unfold nextL; rw [hn]; simp
    obtain ⟨a, c, h1, hLV⟩ := h.open
    obtain ⟨b, off, aj, nj, cj, rfl, hb, hc, hcl, hcc, hvj⟩ := hLV k hk
    have hki : (k : Int) < (N.length : Int) := by omega
    have hc1 : decide ((k : Int) < 0) = false := decide_eq_false (by omega)
    have hc2 : decide ((N.length : Int) ≤ (k : Int)) = false := decide_eq_false (by omega)
    have hc3 : decide (N.length ≤ k) = false := decide_eq_false (by omega)
    have hrl : nj ≤ 4096 := by rw [← hcl]; exact h.rows k
    have hnji : (nj : Int) ≤ 4096 := by omega
    have HB := hide (fun wx (hx : Below w.heap.size w wx) => (hx.block _ (Array.getElem?_eq_some_iff.1 h1).1).trans h1)
    have HC := hide (fun wx (hx : Below w.heap.size w wx) => (hx.cell (p := ⟨b, off + k, none⟩) hb).trans hc)
    have HV := hide hvj
    have HCL := hide hcl
    have HN := hide hrl
    clear h h1 hLV hb hc hvj hcl hcc hn hk hrl
    go_enter Try.func33, Try.ntmps33
    go_wp2_with fail
    refine hL.mono ?_
    rintro e w1 ⟨rfl, rfl⟩
    clear hL
    go_wp2_with fail
    go_loopw [5, 6] (fun v i wr => ∃ q : Nat, q ≤ nj ∧ i = .int .i64 q ∧ Below w.heap.size w wr ∧ wr.ownsRow w.heap.size 3 1 v ((rowN N k).take q).length (((rowN N k).take q).map (Value.int .i64))) (fun _ i _ => nj - (intOf i).toNat)
    case atStart => exact ⟨0, Nat.zero_le _, rfl, Below.refl _ _, World.ownsRow_nil _ _ _ _⟩
    case round =>
      obtain ⟨q, hq, rfl, hbr, ho⟩ := hrel
      obtain ⟨a4, c4, rfl⟩ := own_shapeG ho
      have g0 := (oneCell (HB.out _ hbr)).1
      have g1 := HC.out _ hbr
      by_cases hlt : q < nj
      · have hqR : q < (rowN N k).length := by rw [HCL.out]; exact hlt
        obtain ⟨b3, o3, rfl, _, hcq⟩ := (HV.out.below hbr) q hqR
        have hqi : (q : Int) < (nj : Int) := by omega
        have HSN := hide (take_snoc (rowN N k) q hqR)
        have HZL : Hid (((rowN N k).take q).length ≤ 4096) := by show _ ≤ _; rw [List.length_take]; have := HN.out; omega
        have HOA := hide (own_below ho ((Below.refl wr.heap.size wr).alloc (Nat.le_refl _) (.cells #[.int .i64 (nth (rowN N k) q)] 3)))
        have HBR := hide hbr
        have HLT := hide hlt
        generalize (rowN N k).take q = z1 at *
        generalize nth (rowN N k) q = y at *
        clear hqR ho hbr hlt hq
        go_wp2_with (at_builtin; refine wpList_app1 rfl (.tmp 28) (.tmp 39) rfl w.heap.size _ z1 y rfl wr.heap.size rfl (allocNew _ _ rfl) HOA.out (by have := HZL.out; omega) (by rw [World.size_alloc]; have := HBR.out.size; omega) ?_)
        intro g cap w6 ho6 hg6 _
        have HB6 := hide ((HBR.out.alloc HBR.out.size _).grown hg6 (by rw [World.size_alloc]; have := HBR.out.size; omega) (fun j e => (World.ownsRow.lt HOA.out j e).1))
        have HO6 := hide ho6
        clear ho6 hg6 HOA
        go_wp2_with fail
        exact ⟨⟨q + 1, HLT.out, by simp, HB6.out, by rw [HSN.out]; simpa using HO6.out⟩, measZ2 HLT.out⟩
      · have e : nj = q := by omega
        subst e
        have hrow : (rowN N k).take nj = rowN N k := List.take_of_length_le (by rw [HCL.out]; exact Nat.le_refl _)
        rw [hrow] at ho ⊢
        have HO := hide (And.intro ho hbr)
        clear ho hbr hrow hq
        go_wp2_with fail
        go_ret
        rw [HE.out]
        exact ⟨_, rfl, HO.out.1, HO.out.2⟩

theorem ahead_whole {N : List (List Int)} (hE : Edges N.length N) (i : Int) : aheadT N N.length i = aheadL N i := by
  unfold aheadL
  cases hn : nodeB N.length i with
  | true => rfl
  | false =>
    unfold nodeB at hn
    have h1 := of_decide_eq_false hn
    have : ∀ x, x ∉ aheadT N N.length i := fun x hx => by
      obtain ⟨j, _, hj, _⟩ := (aheadT_mem _ _ _ _).1 hx
      exact h1 (hE j i hj)
    exact List.eq_nil_iff_forall_not_mem.2 this

set_option maxHeartbeats 4000000 in
theorem refAhead14_any (i : Int) (w : World) (B lo : Nat) (N : List (List Int)) (h : RfG w B lo N) : Calls Try.prog 34 #[.pointer (some ⟨B, 0, none⟩), .int .i64 i] w fun e w' => AnsI w w' e (aheadL N i) := by
  have HE := hide (ahead_whole h.edges i)
  have HF := hide h.few
  have HG := hide h
  obtain ⟨a, c, h1, hLV⟩ := h.open
  have HB := hide (fun wx (hx : Below w.heap.size w wx) => (hx.block _ (Array.getElem?_eq_some_iff.1 h1).1).trans h1)
  have HV := hide hLV
  have HS := hide (fun k => aheadT_succ N k i)
  have HZ : Hid (aheadT N 0 i = []) := by simp [Hid, aheadT]
  have HR := hide h.rows
  have hni : (N.length : Int) ≤ 4096 := by have := h.few; omega
  generalize hnn : N.length = n at *
  have HNN := hide hnn
  clear h h1 hLV hnn
  go_enter Try.func34, Try.ntmps34
  go_wp2_with fail
  go_loopw [5, 6] (fun v k wr => ∃ q : Nat, q ≤ n ∧ k = .int .i64 q ∧ Below w.heap.size w wr ∧ wr.ownsRow w.heap.size 3 1 v (aheadT N q i).length ((aheadT N q i).map (Value.int .i64))) (fun _ k _ => n - (intOf k).toNat)
  case atStart => exact ⟨0, Nat.zero_le _, rfl, Below.refl _ _, by rw [HZ.out]; exact World.ownsRow_nil _ _ _ _⟩
  case round =>
    obtain ⟨q, hq, rfl, hbr, ho⟩ := hrel
    obtain ⟨a4, c4, rfl⟩ := own_shapeG ho
    have g0 := (oneCell (HB.out _ hbr)).1
    have hL := refLen14_any wr B lo N (HG.out.below hbr)
    rw [HNN.out] at hL
    by_cases hlt : q < n
    · obtain ⟨b, off, aj, nj, cj, rfl, hb, hc, hcl, hcc, hvj⟩ := (HV.out.below hbr) q (by rw [HNN.out]; exact hlt)
      have hqi : (q : Int) < (n : Int) := by omega
      have hIN := refIn14_any aj nj cj (rowN N q) i wr hvj hcl (by have := HR.out q; omega)
      have HSN := hide (HS.out q)
      have HZL : Hid ((aheadT N q i).length ≤ 4096) := by show _ ≤ _; have := aheadT_len N q i; omega
      have HBR := hide hbr
      have HLT := hide hlt
      have HO := hide ho
      have HOA := hide (own_below ho ((Below.refl wr.heap.size wr).alloc (Nat.le_refl _) (.cells #[.int .i64 (q : Int)] 3)))
      generalize aheadT N q i = z1 at *
      generalize hrr : decide (i ∈ rowN N q) = r at *
      have HE2 : Hid (aheadT N (q + 1) i = if r then z1 ++ [(q : Int)] else z1) := by
        show _ = _
        rw [HSN.out]
        cases r with
        | true => rw [if_pos (of_decide_eq_true hrr)]; rfl
        | false => rw [if_neg (of_decide_eq_false hrr)]; simp
      clear ho hbr hlt hq hb hcl hcc hvj hrr HSN
      go_wp2_with fail
      refine hL.mono ?_
      rintro e w1 ⟨rfl, rfl⟩
      clear hL
      go_wp2_with fail
      refine hIN.mono ?_
      rintro e w1 ⟨rfl, rfl⟩
      clear hIN
      cases r with
      | false =>
        go_wp2_with fail
        exact ⟨⟨q + 1, HLT.out, by simp, HBR.out, by rw [HE2.out]; simpa using HO.out⟩, measZ2 HLT.out⟩
      | true =>
        go_wp2_with (at_builtin; refine wpList_app1 rfl (.tmp 22) (.tmp 24) rfl w.heap.size _ z1 (q : Int) rfl wr.heap.size rfl (allocNew _ _ rfl) HOA.out (by have := HZL.out; omega) (by rw [World.size_alloc]; have := HBR.out.size; omega) ?_)
        intro g cap w6 ho6 hg6 _
        have HB6 := hide ((HBR.out.alloc HBR.out.size _).grown hg6 (by rw [World.size_alloc]; have := HBR.out.size; omega) (fun j e => (World.ownsRow.lt HOA.out j e).1))
        have HO6 := hide ho6
        clear ho6 hg6 HOA
        go_wp2_with fail
        exact ⟨⟨q + 1, HLT.out, by simp, HB6.out, by rw [HE2.out]; simpa using HO6.out⟩, measZ2 HLT.out⟩
    · have e : n = q := by omega
      subst e
      have HO := hide (And.intro ho hbr)
      clear ho hbr hq
      go_wp2_with fail
      refine hL.mono ?_
      rintro e w1 ⟨rfl, rfl⟩
      clear hL
      go_wp2_with fail
      go_ret
      rw [← HE.out]
      exact ⟨_, rfl, HO.out.1, HO.out.2⟩

set_option maxHeartbeats 4000000 in
theorem refOrder14_any (w : World) (B lo : Nat) (N : List (List Int)) (h : RfG w B lo N) : Calls Try.prog 36 #[.pointer (some ⟨B, 0, none⟩)] w fun e w' => AnsI w w' e (walkF N).2.reverse := by
  have hs := refTo_start w B lo N h
  have hL := refLen14_any _ B lo N (h.below ((Below.refl w.heap.size w).alloc (Nat.le_refl _) (.cells #[.slice none 0 0, .slice none 0 0] 64)))
  have h0 : (0 : Int) < (N.length : Int) := by have := h.some_; omega
  have hQ := walkF_all N h.edges h.some_
  have hlen : (walkF N).2.length ≤ 4096 := by rw [hQ.perm.length_eq]; exact Nat.le_trans hQ.good.len h.few
  generalize (walkF N).2 = zs at *
  have HS := hide hs
  clear h hs hQ
  go_enter Try.func36, Try.ntmps36
  go_wp2_with fail
  refine hL.mono ?_
  rintro e w1 ⟨rfl, rfl⟩
  clear hL
  go_wp2_with fail
  refine HS.out.mono ?_
  rintro e w2 ⟨rfl, cv, lv, k2, hc, hl, hb⟩
  obtain ⟨la, lc, rfl, hvl, _⟩ := View.ofOwned hl
  obtain ⟨_, c1, _⟩ := twoCells k2
  have HB := hide hb
  have HK := hide k2
  have HV := hide hvl
  have HLN := hide hlen
  have hzi : (zs.length : Int) ≤ 4096 := by omega
  generalize hnz : zs.length = nz at *
  have HNZ := hide hnz
  clear hc hl hb HS k2 hvl hlen hnz
  go_wp2_with fail
  go_loopw [4, 5] (fun v k wr => ∃ q : Nat, q ≤ nz ∧ k = .int .i64 ((nz : Int) - 1 - q) ∧ Below w2.heap.size w2 wr ∧ wr.ownsRow w2.heap.size 3 1 v (zs.reverse.take q).length ((zs.reverse.take q).map (Value.int .i64))) (fun _ k _ => ((intOf k) + 1).toNat)
  case atStart => exact ⟨0, Nat.zero_le _, by simp, Below.refl _ _, World.ownsRow_nil _ _ _ _⟩
  case round =>
    obtain ⟨q, hq, rfl, hbr, ho⟩ := hrel
    obtain ⟨a4, c4, rfl⟩ := own_shapeG ho
    obtain ⟨_, d1, _⟩ := twoCells ((hbr.block _ (Array.getElem?_eq_some_iff.1 HK.out).1).trans HK.out)
    by_cases hlt : q < nz
    · obtain ⟨m, hm⟩ : ∃ m : Nat, (nz : Int) - 1 - q = (m : Int) := ⟨nz - 1 - q, by omega⟩
      have hmn : m < nz := by omega
      obtain ⟨b3, o3, rfl, _, hcq⟩ := (HV.out.below hbr) m (by rw [HNZ.out]; exact hmn)
      have hqr : q < zs.reverse.length := by rw [List.length_reverse, HNZ.out]; exact hlt
      have hnth : nth zs.reverse q = nth zs m := by
        have hmz : m < zs.length := by rw [HNZ.out]; exact hmn
        have e1 : nth zs.reverse q = zs.reverse[q] := by simp only [nth, List.getD, List.getElem?_eq_getElem hqr]; rfl
        have e2 : nth zs m = zs[m] := by simp only [nth, List.getD, List.getElem?_eq_getElem hmz]; rfl
        rw [e1, e2, List.getElem_reverse]
        congr 1
        have := HNZ.out
        omega
      have HSN := hide (take_snoc zs.reverse q hqr)
      rw [hnth] at HSN
      have HZL : Hid ((zs.reverse.take q).length ≤ 4096) := by show _ ≤ _; rw [List.length_take]; have := HLN.out; omega
      have HBR := hide hbr
      have HLT := hide hlt
      have HOA := hide (own_below ho ((Below.refl wr.heap.size wr).alloc (Nat.le_refl _) (.cells #[.int .i64 (nth zs m)] 3)))
      have HM := hide hm
      have hmi : (m : Int) < (nz : Int) := by omega
      have hm0 : decide ((0 : Int) ≤ (m : Int)) = true := decide_eq_true (by omega)
      have hw1 : IntKind.i64.wrap ((m : Int) - 1) = (m : Int) - 1 := by rw [IntKind.wrap_i64] <;> omega
      have HBW := hide (HB.out.trans (hbr.mono HB.out.size))
      rw [hm]
      generalize zs.reverse.take q = z1 at *
      generalize nth zs m = y at *
      clear hqr ho hbr hlt hq hmn hm hnth
      go_wp2_with (at_builtin; refine wpList_app1 rfl (.tmp 24) (.tmp 32) rfl w2.heap.size _ z1 y rfl wr.heap.size rfl (allocNew _ _ rfl) HOA.out (by have := HZL.out; omega) (by rw [World.size_alloc]; have := HBR.out.size; omega) ?_)
      intro g cap w6 ho6 hg6 _
      have HB6 := hide ((HBR.out.alloc HBR.out.size _).grown hg6 (by rw [World.size_alloc]; have := HBR.out.size; omega) (fun j e => (World.ownsRow.lt HOA.out j e).1))
      have HO6 := hide ho6
      clear ho6 hg6 HOA
      go_wp2_with fail
      exact ⟨⟨q + 1, HLT.out, by have := HM.out; congr 1; omega, HB6.out, by rw [HSN.out]; simpa using HO6.out⟩, by simp [intOf]⟩
    · have e : nz = q := by omega
      subst e
      have hm1 : (nz : Int) - 1 - nz = -1 := by omega
      have hrow : zs.reverse.take nz = zs.reverse := List.take_of_length_le (by rw [List.length_reverse, HNZ.out]; exact Nat.le_refl _)
      rw [hrow] at ho ⊢
      rw [hm1]
      have HO := hide (And.intro (own_mono ho HB.out.size) (HB.out.trans (hbr.mono HB.out.size)))
      clear ho hbr hrow hq hm1
      go_wp2_with fail
      go_ret
      exact ⟨_, rfl, HO.out.1, HO.out.2⟩

end Go.Proofs.Ytpdjmapmpicgjaa
