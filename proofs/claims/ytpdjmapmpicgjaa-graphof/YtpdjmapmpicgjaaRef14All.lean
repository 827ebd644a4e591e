/-
  The document's graph: All, and what is reached.
-/
import Derived.WalkSpells
import Derived.WalkMore
import Derived.OwnWalk
import Derived.Test.YtpdjmapmpicgjaaProg
import Derived.Test.YtpdjmapmpicgjaaBoxes
import Derived.Test.YtpdjmapmpicgjaaGraphAsks
import Derived.Test.YtpdjmapmpicgjaaRef14Asks
import Derived.Test.YtpdjmapmpicgjaaLaw14Among
namespace Go.Proofs.Ytpdjmapmpicgjaa
open Go.RowKit
set_option linter.unusedVariables false
set_option linter.unusedSimpArgs false
set_option maxRecDepth 10000

theorem BoolsInfo : (Try.prog.info? 4).map (fun i => (i.zero, i.size, i.bytes)) = some (some (.bool false), 1, 1) := by kernel_rfl
def blS (S : Nat → Bool) (n : Nat) : List Value := (List.range n).map fun i => .bool (S i)
theorem blS_len (S : Nat → Bool) (n : Nat) : (blS S n).length = n := by simp [blS]
theorem blS_at (S : Nat → Bool) (n i : Nat) (h : i < n) : (blS S n)[i]? = some (.bool (S i)) := by simp [blS, h]
def setS (S : Nat → Bool) (j : Nat) : Nat → Bool := fun i => if i = j then true else S i
theorem blS_set (S : Nat → Bool) (n j : Nat) (h : j < n) : (blS S n).set j (.bool true) = blS (setS S j) n := by
  apply List.ext_getElem?
  intro i
  by_cases hi : i < n
  · rw [List.getElem?_set, blS_at _ _ _ hi, blS_at _ _ _ hi, blS_len]
    by_cases e : j = i
    · subst e; simp [h, setS]
    · have e' : ¬ i = j := fun x => e x.symm
      simp [e, e', setS]
  · rw [List.getElem?_eq_none (by rw [List.length_set, blS_len]; omega), List.getElem?_eq_none (by rw [blS_len]; omega)]
/-- How many are not marked. -/
def cntS (S : Nat → Bool) : Nat → Nat
  | 0 => 0
  | n + 1 => cntS S n + (if S n then 0 else 1)
theorem cntS_congr {S T : Nat → Bool} : ∀ {n : Nat}, (∀ i, i < n → S i = T i) → cntS S n = cntS T n
  | 0, _ => rfl
  | n + 1, h => by unfold cntS; rw [cntS_congr (fun i hi => h i (by omega)), h n (by omega)]
theorem cntS_set {S : Nat → Bool} {j : Nat} (hj : S j = false) : ∀ {n : Nat}, j < n → cntS (setS S j) n < cntS S n
  | 0, h => by omega
  | n + 1, h => by
    unfold cntS
    by_cases e : j = n
    · subst e
      have : cntS (setS S j) j = cntS S j := cntS_congr fun i hi => if_neg (by omega)
      rw [this, hj]
      simp [setS]
    · have := cntS_set hj (n := n) (by omega)
      have e2 : setS S j n = S n := if_neg (fun x => e x.symm)
      rw [e2]; omega
/-- The same, off the memory. -/
def isF : Option Value → Bool
  | some (.bool false) => true
  | _ => false
def cntW (B : Nat) (wr : World) : Nat → Nat
  | 0 => 0
  | n + 1 => cntW B wr n + (if isF (wr.cell? ⟨B, n, none⟩) then 1 else 0)

/-- Marks in memory. -/
structure AllS (w wr : World) (n : Nat) (S : Nat → Bool) : Prop where
  own : wr.ownsRow w.heap.size 4 1 (.slice (some ⟨w.heap.size, 0, none⟩) n n) n (blS S n)
  bel : Below w.heap.size w wr
theorem AllS.cell {w wr : World} {n : Nat} {S : Nat → Bool} (h : AllS w wr n S) {i : Nat} (hi : i < n) : wr.cell? ⟨w.heap.size, i, none⟩ = some (.bool (S i)) := by
  rw [h.own.cellAt i (by omega), blS_at S n i hi]
theorem AllS.cnt {w wr : World} {n : Nat} {S : Nat → Bool} (h : AllS w wr n S) : cntW w.heap.size wr n = cntS S n := by
  have key : ∀ k, k ≤ n → cntW w.heap.size wr k = cntS S k := by
    intro k
    induction k with
    | zero => intro _; rfl
    | succ k ih =>
      intro hk
      unfold cntW cntS
      rw [ih (by omega), h.cell (by omega)]
      cases S k <;> simp [isF]
  exact key n (Nat.le_refl _)
theorem AllS.set {w wr : World} {n : Nat} {S : Nat → Bool} (h : AllS w wr n S) {j : Nat} (hj : j < n) : AllS w (wr.setCell ⟨w.heap.size, j, none⟩ (.bool true)) n (setS S j) := by
  refine ⟨?_, h.bel.setCell (by simp) _⟩
  rw [← blS_set S n j hj]
  exact own_setAt h.own j _

/-- What a piece of a round leaves. -/
structure AllP (N : List (List Int)) (n : Nat) (S T : Nat → Bool) (b : Bool) : Prop where
  sound : ∀ i, i < n → T i = true → Reach N 0 (i : Int)
  mono : ∀ i, S i = true → T i = true
  same : b = false → T = S
  less : b = true → cntS T n < cntS S n
theorem AllP.set {N : List (List Int)} {n : Nat} {S T : Nat → Bool} {b : Bool} (h : AllP N n S T b) {i j : Nat} (hi : i < n) (hT : T i = true) (hj : (j : Int) ∈ rowN N i) (hjn : j < n) (hf : T j = false) : AllP N n S (setS T j) true := by
  refine ⟨fun k hk hs => ?_, fun k hs => ?_, fun e => (by cases e), fun _ => ?_⟩
  · unfold setS at hs
    split at hs
    · rename_i e; subst e
      exact (h.sound i hi hT).step (by simpa using hj)
    · exact h.sound k hk hs
  · unfold setS
    split
    · rfl
    · exact h.mono k hs
  · have h1 := cntS_set hf hjn
    cases b with
    | true => have := h.less rfl; omega
    | false => have := h.same rfl; subst this; exact h1
/-- Marks that are closed are those that are reached. -/
theorem all_whole {N : List (List Int)} (hE : Edges N.length N) (h0 : 0 < N.length) {S : Nat → Bool} (hs : ∀ i, i < N.length → S i = true → Reach N 0 (i : Int)) (h1 : S 0 = true) (hc : ∀ i, i < N.length → S i = true → ∀ y ∈ rowN N i, S y.toNat = true) : blS S N.length = blS (fun i => decide ((i : Int) ∈ (walkF N).1)) N.length := by
  have hQ := walkF_all N hE h0
  unfold blS
  apply List.map_congr_left
  intro i hi
  have hin := List.mem_range.1 hi
  congr 1
  rw [Bool.eq_iff_iff, decide_eq_true_eq, hQ.mem]
  constructor
  · exact hs i hin
  · intro hr
    have := hr.closed (c := ((List.range N.length).filter S).map Int.ofNat) (by simp only [List.mem_map, List.mem_filter, List.mem_range]; exact ⟨0, ⟨h0, h1⟩, rfl⟩) (fun x hx y hy => by
      simp only [List.mem_map, List.mem_filter, List.mem_range] at hx ⊢
      obtain ⟨k, ⟨hk, hk2⟩, rfl⟩ := hx
      have hy' : y ∈ rowN N k := by simpa using hy
      have hyE := hE k y hy'
      exact ⟨y.toNat, ⟨by omega, hc k hk hk2 y hy'⟩, by simp; omega⟩)
    simp only [List.mem_map, List.mem_filter, List.mem_range] at this
    obtain ⟨k, ⟨_, hk2⟩, hk3⟩ := this
    have : k = i := by simp at hk3; omega
    subst this
    exact hk2

def b2n : Value → Nat
  | .bool true => 1
  | _ => 0

set_option maxHeartbeats 8000000 in
theorem refAll14_any (w : World) (B lo : Nat) (N : List (List Int)) (h : RfG w B lo N) : Calls Try.prog 53 #[.pointer (some ⟨B, 0, none⟩), .int .i64 (-1)] w fun e w' => e = .returned (.slice (some ⟨w.heap.size, 0, none⟩) N.length N.length) ∧ w'.ownsRow w.heap.size 4 1 (.slice (some ⟨w.heap.size, 0, none⟩) N.length N.length) N.length (blS (fun i => decide ((i : Int) ∈ (walkF N).1)) N.length) ∧ Below w.heap.size w w' := by
  obtain ⟨j0, hj, hy0, hy1, hy2⟩ := info_parts BoolsInfo
  have HW := hide (fun S => all_whole (S := S) h.edges h.some_)
  have HF := hide h.few
  have H0 := hide h.some_
  have HED := hide h.edges
  have HG := hide h
  obtain ⟨a, c, h1, hLV⟩ := h.open
  have HB := hide (fun wx (hx : Below w.heap.size w wx) => (hx.block _ (Array.getElem?_eq_some_iff.1 h1).1).trans h1)
  have HV := hide hLV
  have HL := hide (fun wx (hx : Below w.heap.size w wx) => refLen14_any wx B lo N (h.below hx))
  have hL := HL.out w (Below.refl _ _)
  have hni : (N.length : Int) ≤ 4096 := by have := h.few; omega
  have hn0 : (0 : Int) < (N.length : Int) := by have := h.some_; omega
  have hz : ((N.length : Int) == 0) = false := by
    have : ¬ (N.length : Int) = 0 := by omega
    simpa using this
  have HR := hide h.rows
  generalize hRES : blS (fun i => decide ((i : Int) ∈ (walkF N).1)) N.length = RES at *
  generalize hnn : N.length = n at *
  have HNN := hide hnn
  clear h h1 hLV hnn hRES
  go_enter Try.func53, Try.ntmps53
  go_wp2_with fail
  refine hL.mono ?_
  rintro e w1 ⟨rfl, rfl⟩
  have hL2 := HL.out
  clear hL
  go_wp2_with (at_make; refine wpList_make_full _ rfl _ _ 82 rfl w.heap.size 4 j0 (.bool false) 1 Try.underlying82 hj hy0 hy1 _ _ _ _ n rfl rfl (by rfl) (by rfl) (by rw [hy2]; omega) (by unfold maxLen; omega) (Nat.le_refl _) ?_)
  intro w2 hown2 hgr2
  have hb2 : Below w.heap.size w w2 := (Below.refl _ w).grown hgr2 (Nat.le_refl _) (by simp)
  have hl2 := HL.out w2 hb2
  have hS2 : AllS w w2 n (fun _ => false) := by
    refine ⟨?_, hb2⟩
    have hc : (madeCells #[Value.bool false] (n * 1)).toList = blS (fun _ => false) n := by
      rw [Nat.mul_one, toList_madeCells_one (.bool false) n]
      unfold blS
      apply List.ext_getElem (by simp)
      intro i h1 h2
      simp
    rw [← hc]
    exact by simpa using hown2
  have hS0 := hS2.set (j := 0) (by have := H0.out; omega)
  have hc2 := hS2.cell (i := 0) (by have := H0.out; omega)
  have hf2 := hS2.own.frozenAt 0
  have HS0 := hide hS0
  clear hown2 hgr2 hb2 hS2 hS0 hL2
  go_wp2_with fail
  refine hl2.mono ?_
  rintro e w3 ⟨rfl, rfl⟩
  clear hl2
  go_wp2_with fail
  generalize hW0 : w2.setCell ⟨w.heap.size, 0, none⟩ (.bool true) = W0 at *
  clear hW0 hc2 hf2
  go_loopw [6] (fun v wr => ∃ (S : Nat → Bool) (b : Bool), v = .bool b ∧ AllS w wr n S ∧ (∀ i, i < n → S i = true → Reach N 0 (i : Int)) ∧ S 0 = true ∧ (b = false → ∀ i, i < n → S i = true → ∀ y ∈ rowN N i, S y.toNat = true)) (fun v wr => 2 * cntW w.heap.size wr n + b2n v)
  case atStart => exact ⟨_, true, rfl, HS0.out, fun i hi hs => (by
      unfold setS at hs
      split at hs
      · rename_i e; subst e; exact Reach.refl _ _
      · cases hs), rfl, fun e => by cases e⟩
  case round =>
    obtain ⟨S, b, rfl, hS, hsd, hs0, hcl⟩ := hrel
    cases b with
    | false =>
      have HRS := hide (HW.out S hsd hs0 (hcl rfl))
      have HO := hide hS
      clear hS hsd hs0 hcl HS0
      go_wp2_with fail
      go_ret
      refine ⟨rfl, ?_, HO.out.bel⟩
      rw [← HRS.out]
      exact HO.out.own
    | true =>
      have HM0 := hide hS.cnt
      have HP0 : Hid (AllP N n S S false) := ⟨hsd, fun _ h => h, fun _ => rfl, fun e => (by cases e)⟩
      have HS := hide hS
      have HS0' := hide hs0
      clear hS hsd hs0 hcl HS0
      rename World => wo
      go_wp2_with fail
      go_loopw [6, 7] (fun v k wr => ∃ (T : Nat → Bool) (b : Bool) (q : Nat), q ≤ n ∧ v = .bool b ∧ k = .int .i64 q ∧ AllS w wr n T ∧ AllP N n S T b ∧ T 0 = true ∧ (b = false → ∀ i, i < q → S i = true → ∀ y ∈ rowN N i, S y.toNat = true)) (fun _ k _ => n - (intOf k).toNat)
      case atStart => exact ⟨S, false, 0, Nat.zero_le _, rfl, rfl, HS.out, HP0.out, HS0'.out, fun _ i hi => by omega⟩
      case round =>
        obtain ⟨T, b, q, hq, rfl, rfl, hT, hP, hT0, hcl⟩ := hrel
        have hl := HL.out wr hT.bel
        by_cases hlt : q < n
        · have hqi : (q : Int) < (n : Int) := by omega
          have hcq := hT.cell hlt
          have HT := hide hT
          have HP := hide hP
          have HT0 := hide hT0
          have HCL := hide hcl
          have HLT := hide hlt
          generalize hTq : T q = tq at *
          have HTQ := hide hTq
          have gB := (oneCell (HB.out wr hT.bel)).1
          obtain ⟨bb, off, aj, nj, cj, rfl, hbb, hc, hcl2, hcc, hvj⟩ := HV.out q (by rw [HNN.out]; exact hlt)
          have hc' := (hT.bel.cell (p := ⟨bb, off + q, none⟩) hbb).trans hc
          have HVJ := hide hvj
          have HNJ := hide hcl2
          have hnj4 := HR.out q
          rw [hcl2] at hnj4
          have hnji : (nj : Int) ≤ 4096 := by omega
          have HBB := hide (fun wx (hx : Below w.heap.size w wx) => (hx.cell (p := ⟨bb, off + q, none⟩) hbb).trans hc)
          clear hT hP hT0 hcl hlt hTq hq hbb hc hcl2 hcc hvj hnj4
          rename World => wl
          cases tq with
          | false =>
            go_wp2_with fail
            refine hl.mono ?_
            rintro e w5 ⟨rfl, rfl⟩
            clear hl
            go_wp2_with fail
            refine ⟨⟨T, b, q + 1, HLT.out, rfl, by simp, HT.out, HP.out, HT0.out, fun hb i hi hs y hy => ?_⟩, measZ2 HLT.out⟩
            by_cases e : i = q
            · subst e
              have := HP.out.same hb
              rw [← this, HTQ.out] at hs
              cases hs
            · exact HCL.out hb i (by omega) hs y hy
          | true =>
            go_wp2_with fail
            refine hl.mono ?_
            rintro e w5 ⟨rfl, rfl⟩
            clear hl
            go_wp2_with fail
            go_loopw [6, 8] (fun v k wr => ∃ (T2 : Nat → Bool) (b2 : Bool) (m : Nat), m ≤ nj ∧ v = .bool b2 ∧ k = .int .i64 m ∧ AllS w wr n T2 ∧ AllP N n S T2 b2 ∧ T2 0 = true ∧ T2 q = true ∧ (b = true → b2 = true) ∧ (b2 = false → ∀ y ∈ (rowN N q).take m, S y.toNat = true)) (fun _ k _ => nj - (intOf k).toNat)
            case atStart => exact ⟨T, b, 0, Nat.zero_le _, rfl, rfl, HT.out, HP.out, HT0.out, HTQ.out, fun h => h, fun _ y hy => by simp at hy⟩
            case round =>
              obtain ⟨T2, b2, m, hm, rfl, rfl, hT, hP, hT0, hTq, hbb2, hcm⟩ := hrel
              have gB := (oneCell (HB.out wr hT.bel)).1
              have hcR := HBB.out wr hT.bel
              by_cases hlt : m < nj
              · have hmR : m < (rowN N q).length := by rw [HNJ.out]; exact hlt
                obtain ⟨b3, o3, rfl, _, hcm3⟩ := (HVJ.out.below hT.bel) m hmR
                have hmem := nth_memG (rowN N q) m hmR
                have hyE := HED.out q _ hmem
                have hsn := take_snoc (rowN N q) m hmR
                obtain ⟨yn, hye⟩ := Int.eq_ofNat_of_zero_le hyE.1
                rw [hye] at hcm3 hmem hyE hsn
                have hyn : yn < n := by omega
                have hyi : (yn : Int) < (n : Int) := hyE.2
                have hne : ((yn : Int) != -1) = true := by first | (simp; done) | (simp; omega)
                have hcy := hT.cell hyn
                have hfy := hT.own.frozenAt yn
                have hset := hT.set hyn
                have hmi : (m : Int) < (nj : Int) := by omega
                have HX := hide (And.intro hT (And.intro hP (And.intro hT0 (And.intro hTq (And.intro hbb2 hcm)))))
                have HST := hide hset
                have HM := hide hmem
                have HYN := hide hyn
                have HSN := hide hsn
                have HLM := hide hlt
                generalize hty : T2 yn = ty at *
                have HTY := hide hty
                clear hT hP hT0 hTq hbb2 hcm hset hmem hyn hsn hlt hmR hye hyE hty hm
                cases ty with
                | true =>
                  go_wp2_with fail
                  refine ⟨⟨T2, b2, m + 1, HLM.out, rfl, by simp, HX.out.1, HX.out.2.1, HX.out.2.2.1, HX.out.2.2.2.1, HX.out.2.2.2.2.1, fun hb y hy => ?_⟩, measZ2 HLM.out⟩
                  rw [HSN.out] at hy
                  rcases List.mem_append.1 hy with hy | hy
                  · exact HX.out.2.2.2.2.2 hb y hy
                  · simp at hy
                    subst hy
                    have := HX.out.2.1.same hb
                    rw [← this]
                    simpa using HTY.out
                | false =>
                  go_wp2_with fail
                  refine ⟨⟨_, true, m + 1, HLM.out, rfl, by simp, HST.out, HX.out.2.1.set HLT.out HX.out.2.2.2.1 HM.out HYN.out HTY.out, ?_, ?_, fun _ => rfl, fun hb => by cases hb⟩, measZ2 HLM.out⟩
                  · unfold setS; split
                    · rfl
                    · exact HX.out.2.2.1
                  · unfold setS; split
                    · rfl
                    · exact HX.out.2.2.2.1
              · have e : nj = m := by omega
                subst e
                have HX := hide (And.intro hT (And.intro hP (And.intro hT0 (And.intro hbb2 hcm))))
                clear hT hP hT0 hTq hbb2 hcm hm
                go_wp2_with fail
                refine ⟨⟨T2, b2, q + 1, HLT.out, rfl, by simp, HX.out.1, HX.out.2.1, HX.out.2.2.1, fun hb i hi hs y hy => ?_⟩, measZ2 HLT.out⟩
                by_cases e : i = q
                · subst e
                  refine HX.out.2.2.2.2 hb y ?_
                  rw [List.take_of_length_le (by rw [HNJ.out]; exact Nat.le_refl _)]
                  exact hy
                · exact HCL.out (by cases b with | false => rfl | true => (have := HX.out.2.2.2.1 rfl; rw [hb] at this; cases this)) i (by omega) hs y hy
        · have e : n = q := by omega
          subst e
          have HX := hide (And.intro hT (And.intro hP (And.intro hT0 hcl)))
          clear hT hP hT0 hcl hq
          go_wp2_with fail
          refine hl.mono ?_
          rintro e w5 ⟨rfl, rfl⟩
          clear hl
          go_wp2_with fail
          refine ⟨⟨T, b, rfl, HX.out.1, HX.out.2.1.sound, HX.out.2.2.1, fun hb i hi hs y hy => ?_⟩, ?_⟩
          · have := HX.out.2.1.same hb
            rw [this] at hs ⊢
            exact HX.out.2.2.2 hb i hi hs y hy
          · rw [HX.out.1.cnt, HM0.out]
            cases b with
            | false => have := HX.out.2.1.same rfl; subst this; simp [b2n]
            | true => have := HX.out.2.1.less rfl; simp [b2n]; omega

set_option maxHeartbeats 2000000 in
theorem refReached14_any (i : Int) (w : World) (B lo : Nat) (N : List (List Int)) (h : RfG w B lo N) : Calls Try.prog 35 #[.pointer (some ⟨B, 0, none⟩), .int .i64 i] w fun e w' => e = .returned (.bool (reachB N i)) ∧ Below w.heap.size w w' := by
  have hL := refLen14_any w B lo N h
  cases hn : nodeB N.length i with
  | false =>
    have HE : Hid (reachB N i = false) := by show _ = _; unfold reachB; rw [hn]; rfl
    have hcase : decide (i < 0) = true ∨ (decide (i < 0) = false ∧ decide ((N.length : Int) ≤ i) = true) := by
      unfold nodeB at hn
      have := of_decide_eq_false hn
      by_cases h : i < 0
      · exact .inl (decide_eq_true h)
      · exact .inr ⟨decide_eq_false h, decide_eq_true (by omega)⟩
    clear h hn
    rcases hcase with hc1 | ⟨hc1, hc2⟩
    · clear hL
      go_enter Try.func35, Try.ntmps35
      go_wp2_with fail
      go_ret
      exact ⟨by rw [HE.out]; rfl, Below.refl _ _⟩
    · go_enter Try.func35, Try.ntmps35
      go_wp2_with fail
      refine hL.mono ?_
      rintro e w1 ⟨rfl, rfl⟩
      go_wp2_with fail
      go_ret
      exact ⟨by rw [HE.out]; rfl, Below.refl _ _⟩
  | true =>
    obtain ⟨k, hk, rfl⟩ := nodeB_true hn
    have HE : Hid (reachB N (k : Int) = decide ((k : Int) ∈ (walkF N).1)) := by show _ = _; unfold reachB; rw [hn]; simp
    have hki : (k : Int) < (N.length : Int) := by omega
    have hc1 : decide ((k : Int) < 0) = false := decide_eq_false (by omega)
    have hc2 : decide ((N.length : Int) ≤ (k : Int)) = false := decide_eq_false (by omega)
    have hA := refAll14_any w B lo N h
    have HK := hide hk
    clear h hn hk
    generalize N.length = n at *
    generalize (walkF N).1 = zs at *
    generalize reachB N (k : Int) = rb at *
    go_enter Try.func35, Try.ntmps35
    go_wp2_with fail
    refine hL.mono ?_
    rintro e w1 ⟨rfl, rfl⟩
    clear hL
    go_wp2_with fail
    refine hA.mono ?_
    rintro e w2 ⟨rfl, ho, hb⟩
    have hc := ho.cellAt k (by have := HK.out; omega)
    rw [blS_at _ n k HK.out, ← HE.out] at hc
    have HBB := hide hb
    clear ho hb hA
    go_wp2_with fail
    go_ret
    exact ⟨rfl, HBB.out⟩

end Go.Proofs.Ytpdjmapmpicgjaa
