/-
  Texts laid together in one: MathRd, Ref07Digits, Ref07Written0, Ref07Writtentt.
-/
import Derived.WalkSpells
import Derived.Test.YtddackdadebjjaaGreatB22
import Derived.WalkMore
import Derived.BigRegion
import Derived.BigQuiet
import Derived.Deep.RegionWith
import Derived.Laws.BytesArg
import Derived.Test.YtddackdadebjjaaGreatProg
import Derived.Test.YtddackdadebjjaaGreatB11
import Derived.Test.YtddackdadebjjaaGreatB03
import Derived.Test.YtddackdadebjjaaGreatB12
import Derived.Test.YtddackdadebjjaaGreatB10
import Derived.Test.YtddackdadebjjaaGreatB02
import Derived.Test.YtddackdadebjjaaGreatB04
import Derived.Test.YtddackdadebjjaaGreatB05
import Derived.Test.YtddackdadebjjaaGreatB01
import Derived.Deep.RegionHeld2
/-
  A module's text with notes and blanks between its lines: it is read as that module. In plain mathematics.
-/
namespace Go.Proofs.YtddackdadebjjaaGreat
open Go.RowKit
set_option linter.unusedSimpArgs false
set_option maxRecDepth 10000
set_option linter.unusedVariables false

/-- A line that says nothing. -/
def Silent (a : List Int) : Prop := LineOk a ∧ toksP a 0 = ([], 0, 0)
/-- Lines that say instructions, with silent ones between. -/
def RdL : List (List Int) → List InstT → Prop
  | [], l => l = []
  | a :: LL, l => (Silent a ∧ RdL LL l) ∨ ∃ (p : Nat) (x : InstT) (r : List InstT), l = x :: r ∧ a = List.replicate p 32 ++ wtI x ∧ RdL LL r
theorem silent_add {a : List Int} (h : Silent a) (st : ModT) : addS st (strOfNums a) = (0, st) := by
  unfold addS
  rw [strI_of h.1.1, h.2]
  simp
theorem rd_lines {b : Int} : ∀ (LL : List (List Int)) (l : List InstT), RdL LL l → (∀ x ∈ l, InstOk x ∧ rawE x b = 0) → ∀ a ∈ LL, LineOk a
  | [], _, _, _, a, ha => by cases ha
  | a0 :: LL, l, h, hx, a, ha => by
    rw [RdL] at h
    rcases h with ⟨hs, hr⟩ | ⟨p, x, r, rfl, rfl, hr⟩
    · rcases List.mem_cons.1 ha with rfl | ha
      · exact hs.1
      · exact rd_lines LL l hr hx a ha
    · rcases List.mem_cons.1 ha with rfl | ha
      · exact line_ok (hx x (by simp)).1 (hx x (by simp)).2 p
      · exact rd_lines LL r hr (fun y hy => hx y (by simp [hy])) a ha
theorem rd_go : ∀ (LL : List (List Int)) (l : List InstT), RdL LL l → ∀ (st : ModT) (n : Nat) (r : List (Nat × ByteArray)), (∀ x ∈ l, InstOk x ∧ rawE x st.2.1 = 0) → 0 < st.2.2.1 → st.2.2.1 + ((wsum st.2.1 l : Nat) : Int) ≤ 1048576 → goL st (numbered n LL ++ r) = goL (stAfter st l) r
  | [], l, h, st, n, r, _, _, _ => by
    rw [RdL] at h
    subst h
    have : stAfter st [] = st := by simp [stAfter, wsum]
    rw [this]; rfl
  | a0 :: LL, l, h, st, n, r, hx, h0, hw => by
    rw [RdL] at h
    rcases h with ⟨hs, hr⟩ | ⟨p, x, l, rfl, rfl, hr⟩
    · rw [numbered, List.cons_append, goL, silent_add hs, if_neg (by simp)]
      exact rd_go LL l hr st (n + 1) r hx h0 hw
    · have hx1 := hx x (by simp)
      have es : wsum st.2.1 (x :: l) = (1 + (rawWs x st.2.1).length) + wsum st.2.1 l := by simp [wsum]
      rw [es] at hw
      have ha := add_line hx1.1 hx1.2 (by omega) (by push_cast at hw; omega) p
      rw [numbered, List.cons_append, goL, ha, if_neg (by simp)]
      have ih := rd_go LL l hr (st.1, st.2.1, st.2.2.1 + (1 + ((rawWs x st.2.1).length : Int)), st.2.2.2 ++ [x]) (n + 1) r (fun y hy => hx y (by simp [hy])) (by show (0 : Int) < st.2.2.1 + _; omega) (by show st.2.2.1 + (1 + ((rawWs x st.2.1).length : Int)) + ((wsum st.2.1 l : Nat) : Int) ≤ _; push_cast at hw; omega)
      rw [stAfter_cons] at ih
      exact ih

/-! ### lines with a last one that has no end -/

theorem line_tail {t : List Int} (h : LineOk t) (h0 : t ≠ []) (n f : Nat) (hf : (strOfNums t).size ≤ f) : linesF f n (strOfNums t) = [(n, strOfNums t)] := by
  have hs := strI_of h.1
  have hz : (strOfNums t).size = t.length := by rw [← strI_len, hs]
  have hp : 0 < t.length := List.length_pos_iff.2 h0
  have hn : nlAt (strOfNums t) = -1 := nl_none fun k => by
    rw [Ne, ← strI_ten, hs]
    intro e
    exact h.2 10 (List.mem_of_getElem? e) rfl
  obtain ⟨c1, c2⟩ := cut_none hn
  obtain ⟨f', e1, e2⟩ := linesF_step f n _ (by omega : (strOfNums t).size ≠ 0) hf
  rw [e1, c1, c2, linesF_empty _ _ _ rfl]
def tailL (n : Nat) (t : List Int) : List (Nat × ByteArray) := if t = [] then [] else [(n, strOfNums t)]
theorem lines_ofT : ∀ (l : List (List Int)) (t : List Int) (n f : Nat), (∀ a ∈ l, LineOk a) → LineOk t → (strOfNums (joinLs l ++ t)).size ≤ f → linesF f n (strOfNums (joinLs l ++ t)) = numbered n l ++ tailL (n + l.length) t
  | [], t, n, f, _, ht, hf => by
    have e : joinLs [] ++ t = t := rfl
    rw [e] at hf ⊢
    unfold tailL
    by_cases h : t = []
    · subst h; rw [if_pos rfl]; exact linesF_empty _ _ _ rfl
    · rw [if_neg h, line_tail ht h n f hf]; rfl
  | a :: r, t, n, f, h, ht, hf => by
    have hr : ∀ b ∈ r, LineOk b := fun b hb => h b (by simp [hb])
    have e : joinLs (a :: r) ++ t = a ++ 10 :: (joinLs r ++ t) := by simp [joinLs]
    obtain ⟨c1, c2, c3⟩ := line_cut (h a (by simp)) (within_appX (joinLs_within hr) ht.1)
    rw [e] at hf ⊢
    obtain ⟨f', e1, e2⟩ := linesF_step f n _ c3 hf
    rw [e1, c1, c2, numbered, lines_ofT r t (n + 1) f' hr ht (by rw [← c2]; exact e2), List.length_cons, show n + 1 + r.length = n + (r.length + 1) by omega]
    rfl

/-! ### notes -/

/-- What is put behind a line. -/
def insN (v : Int) : List Int := if v % 4 = 0 then [59, 32, 37, 49, 10] else if v % 4 = 1 then [32, 9, 10] else if v % 4 = 2 then [32, 32] else []
def insS (v : Int) : ByteArray := if v % 4 = 0 then ⟨#[59, 32, 37, 49, 10]⟩ else if v % 4 = 1 then ⟨#[32, 9, 10]⟩ else if v % 4 = 2 then ⟨#[32, 32]⟩ else ⟨#[]⟩
theorem insS_eq (v : Int) : insS v = strOfNums (insN v) := by
  unfold insS insN
  split
  · decide
  · split
    · decide
    · split
      · decide
      · decide
theorem insN_len (v : Int) : (insN v).length ≤ 5 := by
  unfold insN
  split
  · simp
  · split
    · simp
    · split <;> simp
/-- A byte more. -/
def stepN (ns : List Int) (s : List Int × Nat) (c : Int) : List Int × Nat := if c = 10 ∧ s.2 < ns.length then (s.1 ++ [c] ++ insN (nth ns s.2), s.2 + 1) else (s.1 ++ [c], s.2)
def outN (ns t : List Int) : List Int × Nat := t.foldl (stepN ns) ([], 0)
theorem outN_snoc (ns t : List Int) (c : Int) : outN ns (t ++ [c]) = stepN ns (outN ns t) c := by unfold outN; rw [List.foldl_append]; rfl
theorem outN_len (ns : List Int) : ∀ t : List Int, (outN ns t).1.length ≤ t.length + 5 * (outN ns t).2 ∧ (outN ns t).2 ≤ ns.length := by
  intro t
  rw [← List.reverse_reverse t]
  induction t.reverse with
  | nil => exact ⟨by simp [outN], by simp [outN]⟩
  | cons c r ih =>
    rw [List.reverse_cons, outN_snoc]
    unfold stepN
    have := insN_len (nth ns (outN ns r.reverse).2)
    split
    · simp only [List.length_append, List.length_singleton] at ih ⊢
      omega
    · simp only [List.length_append, List.length_singleton] at ih ⊢
      omega
theorem fold_line (ns : List Int) : ∀ (a : List Int) (s : List Int × Nat), (∀ z ∈ a, z ≠ 10) → a.foldl (stepN ns) s = (s.1 ++ a, s.2)
  | [], s, _ => by simp
  | c :: a, s, h => by
    have hc := h c (by simp)
    rw [List.foldl_cons]
    have : stepN ns s c = (s.1 ++ [c], s.2) := by unfold stepN; rw [if_neg (fun e => hc e.1)]
    rw [this, fold_line ns a _ (fun z hz => h z (by simp [hz]))]
    simp
/-- Lines and what is put between; p blanks stand ahead. -/
def putN (ns : List Int) : Nat → Nat → List (List Int) → List (List Int) × Nat
  | _, p, [] => ([], p)
  | k, p, a :: r =>
    if k < ns.length then
      ((List.replicate p 32 ++ a) :: ((if nth ns k % 4 = 0 then [[59, 32, 37, 49]] else if nth ns k % 4 = 1 then [[32, 9]] else []) ++ (putN ns (k + 1) (if nth ns k % 4 = 2 then 2 else 0) r).1), (putN ns (k + 1) (if nth ns k % 4 = 2 then 2 else 0) r).2)
    else ((List.replicate p 32 ++ a) :: (putN ns k 0 r).1, (putN ns k 0 r).2)
theorem fold_put (ns : List Int) : ∀ (LL : List (List Int)) (o : List Int) (k p : Nat), (∀ a ∈ LL, ∀ z ∈ a, z ≠ 10) → ((joinLs LL).foldl (stepN ns) (o ++ List.replicate p 32, k)).1 = o ++ (joinLs (putN ns k p LL).1 ++ List.replicate (putN ns k p LL).2 32)
  | [], o, k, p, _ => by simp [joinLs, putN]
  | a :: r, o, k, p, h => by
    have e : joinLs (a :: r) = a ++ ([10] ++ joinLs r) := by simp [joinLs]
    rw [e, List.foldl_append, fold_line ns a _ (h a (by simp)), List.foldl_append, List.foldl_cons, List.foldl_nil]
    have hr : ∀ b ∈ r, ∀ z ∈ b, z ≠ 10 := fun b hb => h b (by simp [hb])
    by_cases hk : k < ns.length
    · have es : stepN ns (o ++ List.replicate p 32 ++ a, k) 10 = (o ++ List.replicate p 32 ++ a ++ [10] ++ insN (nth ns k), k + 1) := by unfold stepN; rw [if_pos ⟨rfl, hk⟩]
      simp only at es ⊢
      rw [es, putN, if_pos hk]
      have hv : nth ns k % 4 = 0 ∨ nth ns k % 4 = 1 ∨ nth ns k % 4 = 2 ∨ nth ns k % 4 = 3 := by omega
      rcases hv with hv | hv | hv | hv
      · have ei : insN (nth ns k) = [59, 32, 37, 49, 10] := by unfold insN; rw [if_pos hv]
        have := fold_put ns r (o ++ List.replicate p 32 ++ a ++ [10] ++ [59, 32, 37, 49, 10]) (k + 1) 0 hr
        rw [ei]
        simp only [List.replicate_zero, List.append_nil] at this
        rw [this]
        simp [hv, joinLs]
      · have ei : insN (nth ns k) = [32, 9, 10] := by unfold insN; rw [if_neg (by omega), if_pos hv]
        have := fold_put ns r (o ++ List.replicate p 32 ++ a ++ [10] ++ [32, 9, 10]) (k + 1) 0 hr
        rw [ei]
        simp only [List.replicate_zero, List.append_nil] at this
        rw [this]
        simp [hv, joinLs]
      · have ei : insN (nth ns k) = List.replicate 2 32 := by unfold insN; rw [if_neg (by omega), if_neg (by omega), if_pos hv]; rfl
        have := fold_put ns r (o ++ List.replicate p 32 ++ a ++ [10]) (k + 1) 2 hr
        rw [ei, this]
        simp [hv, joinLs]
      · have ei : insN (nth ns k) = [] := by unfold insN; rw [if_neg (by omega), if_neg (by omega), if_neg (by omega)]
        have := fold_put ns r (o ++ List.replicate p 32 ++ a ++ [10]) (k + 1) 0 hr
        rw [ei, List.append_nil]
        simp only [List.replicate_zero, List.append_nil] at this
        rw [this]
        simp [hv, joinLs]
    · have es : stepN ns (o ++ List.replicate p 32 ++ a, k) 10 = (o ++ List.replicate p 32 ++ a ++ [10], k) := by unfold stepN; rw [if_neg (fun e => hk e.2)]
      simp only at es ⊢
      rw [es, putN, if_neg hk]
      have := fold_put ns r (o ++ List.replicate p 32 ++ a ++ [10]) k 0 hr
      simp only [List.replicate_zero, List.append_nil] at this
      rw [this]
      simp [joinLs]
theorem silent1 : Silent [59, 32, 37, 49] := ⟨⟨fun z hz => by simp at hz; omega, fun z hz => by simp at hz; omega⟩, by kernel_rfl⟩
theorem silent2 : Silent [32, 9] := ⟨⟨fun z hz => by simp at hz; omega, fun z hz => by simp at hz; omega⟩, by kernel_rfl⟩
theorem put_rd (ns : List Int) : ∀ (l : List InstT) (k p : Nat), RdL (putN ns k p (l.map fun x => wtI x)).1 l
  | [], k, p => rfl
  | x :: l, k, p => by
    rw [List.map_cons, putN]
    split
    · refine .inr ⟨p, x, l, rfl, rfl, ?_⟩
      split
      · exact .inl ⟨silent1, put_rd ns l _ _⟩
      · split
        · exact .inl ⟨silent2, put_rd ns l _ _⟩
        · exact put_rd ns l _ _
    · exact .inr ⟨p, x, l, rfl, rfl, put_rd ns l _ _⟩

/-! ### the head -/

def modS : ByteArray := ⟨#[109, 111, 100, 117, 108, 101]⟩
def headTk (g b : Int) : List TokT := [(1, modS, 0), (3, dgS g, 0), (3, dgS b, 0)]
def headL (g b : Int) : List Int := (wtAll (headTk g b)).drop 1
theorem headTk_ok {g b : Int} (g1 : g < 4294967296) (b1 : b < 4294967296) : wOk (headTk g b) = true := by
  have e1 : tokOk 3 (strI (dgS g)) = true := by show numB _ = true; rw [strI_dgS]; exact (dgL_num (by omega)).1
  have e2 : tokOk 3 (strI (dgS b)) = true := by show numB _ = true; rw [strI_dgS]; exact (dgL_num (by omega)).1
  have e3 : tokOk 1 (strI modS) = true := by decide
  simp [wOk, headTk, e1, e2, e3]
theorem headL_ok {g b : Int} (g1 : g < 4294967296) (b1 : b < 4294967296) : LineOk (headL g b) := by
  have hok := headTk_ok (g := g) (b := b) g1 b1
  simp only [wOk, List.all_eq_true] at hok
  have hno : ∀ z ∈ headL g b, 32 ≤ z := fun z hz => by
    obtain ⟨t, ht, hz⟩ := List.mem_flatMap.1 (List.mem_of_mem_drop hz)
    rcases List.mem_cons.1 hz with rfl | hz
    · omega
    · have := wtS_no (hok t ht) z hz; omega
  refine ⟨within_dropX ?_ 1, fun z hz e => by have := hno z hz; omega⟩
  intro z hz
  obtain ⟨t, ht, hz⟩ := List.mem_flatMap.1 hz
  rcases List.mem_cons.1 hz with rfl | hz
  · omega
  · simp only [headTk, List.mem_cons, List.not_mem_nil, or_false] at ht
    rcases ht with rfl | rfl | rfl <;> exact strI_within _ z (by simpa [wtS] using hz)
theorem head_read {g b : Int} (g0 : 0 ≤ g) (g1 : g < 4294967296) (b0 : 1 ≤ b) (b1 : b ≤ 65536) : addS st0 (strOfNums (headL g b)) = (0, (g, b, 5, [])) := by
  have ht := toks_wt (headTk g b) (headTk_ok g1 (by omega))
  have hsm := placedW_same (headTk g b) 0
  have hl : (placedW 0 (headTk g b)).length = 3 := by rw [placedW_len]; rfl
  obtain ⟨a1, a2⟩ := hsm.2 0 (by simp [headTk])
  obtain ⟨c1, c2⟩ := hsm.2 1 (by simp [headTk])
  obtain ⟨d1, d2⟩ := hsm.2 2 (by simp [headTk])
  have e0 : nthT (headTk g b) 0 = (1, modS, 0) := rfl
  have e1 : nthT (headTk g b) 1 = (3, dgS g, 0) := rfl
  have e2 : nthT (headTk g b) 2 = (3, dgS b, 0) := rfl
  rw [e0] at a1 a2; rw [e1] at c1 c2; rw [e2] at d1 d2
  simp only at a1 a2 c1 c2 d1 d2
  obtain ⟨n1, n2⟩ := num_back g0 g1
  obtain ⟨n3, n4⟩ := num_back (n := b) (by omega) (by omega)
  have p1 : numP (nthT (placedW 0 (headTk g b)) 1) = 0 := by rw [numP_num c1, c2]; exact n1
  have p2 : numP (nthT (placedW 0 (headTk g b)) 2) = 0 := by rw [numP_num d1, d2]; exact n3
  have hh : ∀ len, headP (placedW 0 (headTk g b)) len = (g, b, 0, 0) := fun len => by
    unfold headP
    rw [if_neg (by rw [hl]; simp), if_neg (by simp only [a1, a2]; simp [modS, moduleS]), if_neg (by omega), if_neg (by rw [p1]; simp), if_neg (by omega), if_neg (by rw [p2]; simp), c2, d2, n2, n4, if_neg (by omega), if_neg (by omega)]
  unfold addS
  rw [strI_of (headL_ok g1 (by omega)).1]
  have hX : toksP (headL g b) 0 = (placedW 0 (headTk g b), 0, 0) := ht
  rw [hX]
  simp only
  rw [if_neg (by intro h; rcases h with h | h; exact h rfl; rw [h] at hl; cases hl), if_pos (show st0.2.2.1 = 0 from rfl), hh]
  simp

/-! ### the whole -/

theorem put_head (ns : List Int) (h : List Int) (l : List InstT) : ∃ LL, (putN ns 0 0 (h :: l.map fun x => wtI x)).1 = h :: LL ∧ RdL LL l := by
  rw [putN]
  split
  · refine ⟨_, rfl, ?_⟩
    split
    · exact .inl ⟨silent1, put_rd ns l _ _⟩
    · split
      · exact .inl ⟨silent2, put_rd ns l _ _⟩
      · exact put_rd ns l _ _
  · exact ⟨_, rfl, put_rd ns l _ _⟩
theorem blanks_ok (n : Nat) : LineOk (List.replicate n 32) := ⟨fun z hz => by have := List.eq_of_mem_replicate hz; omega, fun z hz e => by have := List.eq_of_mem_replicate hz; omega⟩
theorem blanks_silent (n : Nat) : Silent (List.replicate n 32) := ⟨blanks_ok n, by
  have := toks_blanks n []
  rw [List.append_nil] at this
  rw [this]; rfl⟩
/-- A module's text. -/
def textM (g b : Int) (l : List InstT) : List Int := joinLs (headL g b :: l.map fun x => wtI x)
theorem textM_ok {g : Int} {N : Nat} {l : List InstT} (g1 : g < 4294967296) (hok : InstsOk l) (hs : (shapeE (N : Int) l).1 = 0) : ∀ a ∈ headL g (N : Int) :: l.map (fun x => wtI x), LineOk a := fun a ha => by
  have hsb := shape_bound hs
  rcases List.mem_cons.1 ha with rfl | ha
  · exact headL_ok g1 (by omega)
  · obtain ⟨x, hx, rfl⟩ := List.mem_map.1 ha
    have := line_ok (oks_mem hok x hx) ((shape_sum hs).2 x hx) 0
    simpa using this
theorem noted_parse {g : Int} {N : Nat} {l : List InstT} (ns : List Int) (g0 : 0 ≤ g) (g1 : g < 4294967296) (hok : InstsOk l) (hs : (shapeE (N : Int) l).1 = 0) (hz : (strOfNums (outN ns (textM g (N : Int) l)).1).size ≤ 16777216) :
    parseS (strOfNums (outN ns (textM g (N : Int) l)).1) = ((g, (N : Int), l), 0, 0) := by
  obtain ⟨h5, hraw⟩ := shape_sum hs
  have hsb := shape_bound hs
  have hix := oks_mem hok
  have hall := textM_ok (g := g) g1 hok hs
  have ho : (outN ns (textM g (N : Int) l)).1 = joinLs (putN ns 0 0 (headL g (N : Int) :: l.map fun x => wtI x)).1 ++ List.replicate (putN ns 0 0 (headL g (N : Int) :: l.map fun x => wtI x)).2 32 := by
    have := fold_put ns (headL g (N : Int) :: l.map fun x => wtI x) [] 0 0 (fun a ha => (hall a ha).2)
    simpa [outN, textM] using this
  obtain ⟨LL, h1, h2⟩ := put_head ns (headL g (N : Int)) l
  have hxx : ∀ x ∈ l, InstOk x ∧ rawE x (N : Int) = 0 := fun x hx => ⟨hix x hx, hraw x hx⟩
  have hLL := rd_lines LL l h2 hxx
  have hlin : ∀ a ∈ headL g (N : Int) :: LL, LineOk a := fun a ha => by
    rcases List.mem_cons.1 ha with rfl | ha
    · exact headL_ok g1 (by omega)
    · exact hLL a ha
  have hlines : linesT (strOfNums (outN ns (textM g (N : Int) l)).1) = numbered 1 (headL g (N : Int) :: LL) ++ tailL (1 + (headL g (N : Int) :: LL).length) (List.replicate (putN ns 0 0 (headL g (N : Int) :: l.map fun x => wtI x)).2 32) := by
    unfold linesT
    rw [ho, h1]
    exact lines_ofT _ _ _ _ hlin (blanks_ok _) (Nat.le_refl _)
  have hgo : goL st0 (linesT (strOfNums (outN ns (textM g (N : Int) l)).1)) = (0, 0, (g, (N : Int), 5 + ((wsum (N : Int) l : Nat) : Int), l)) := by
    rw [hlines, numbered, List.cons_append, goL, head_read g0 g1 (by omega) (by omega), if_neg (by simp)]
    show goL ((g, (N : Int), 5, []) : ModT) _ = _
    rw [rd_go LL l h2 ((g, (N : Int), 5, []) : ModT) (1 + 1) _ hxx (by show (0 : Int) < 5; omega) (by show (5 : Int) + ((wsum (N : Int) l : Nat) : Int) ≤ 1048576; omega)]
    unfold tailL
    split
    · rfl
    · rw [goL, silent_add (blanks_silent _), if_neg (by simp)]; rfl
  unfold parseS
  rw [if_neg (by omega), hgo, if_neg (by simp), if_neg (by simp only; omega)]

end Go.Proofs.YtddackdadebjjaaGreat

/-
  digits of the document: a number in digits.
-/
namespace Go.Proofs.YtddackdadebjjaaGreat
open Go.RowKit
set_option linter.unusedSimpArgs false
set_option maxRecDepth 10000
set_option linter.unusedVariables false

theorem conv1_any (c : Int) (wr : World) : (convert 26 9 (.slice (some ⟨wr.heap.size, 0, none⟩) 1 1)).run Tryz.prog (wr.alloc (.cells #[.int .u8 c] 5)) = .ok (.string (strOfNums [c])) (wr.alloc (.cells #[.int .u8 c] 5)) :=
  run_convert_bytes_arg _ _ _ Tryz.underlying26 Tryz.underlying5 wr.heap.size 0 1 1 [c] rfl (fun i hi => by
    obtain rfl : i = 0 := by omega
    have := heap_alloc_new wr (.cells #[.int .u8 c] 5)
    rw [Lib.cell_of_heap this]; rfl) _ Tryz.underlying9

theorem conv1_at (c : Int) (W : World) (b : Nat) (h : W.heap[b]? = some (.cells #[.int .u8 c] 5 (0, 0))) : (convert 26 9 (.slice (some ⟨b, 0, none⟩) 1 1)).run Tryz.prog W = .ok (.string (strOfNums [c])) W :=
  run_convert_bytes_arg _ _ _ Tryz.underlying26 Tryz.underlying5 b 0 1 1 [c] rfl (fun i hi => by
    obtain rfl : i = 0 := by omega
    rw [Lib.cell_of_heap h]; rfl) _ Tryz.underlying9

set_option maxHeartbeats 2000000 in
theorem refDigits7_any : ∀ (n : Nat) (w : World), n < 4294967296 →
    Calls Tryz.prog 17 #[.int .u32 n] w fun e w' => e = .returned (.string (strOfNums (dgL n))) ∧ Below w.heap.size w w' := by
  intro n
  induction n using Nat.strongRecOn with
  | _ n ih =>
    intro w hn
    by_cases h9 : n ≤ 9
    · have hd : (n : Int) < 10 := by omega
      have hcv := conv1_any (48 + (n : Int)) w
      have HB := hide ((Below.refl _ w).alloc (Nat.le_refl _) (.cells #[.int .u8 (48 + (n : Int))] 5))
      rw [dgL_small h9]
      clear ih
      go_enter Tryz.func17, Tryz.ntmps17
      go_wp2_with fail
      go_ret
      exact ⟨rfl, HB.out⟩
    · have hd : ¬ (n : Int) < 10 := by omega
      have hd' : decide ((n : Int) < 10) = false := by simp; omega
      have hih := fun wx => ih (n / 10) (by omega) wx (by omega)
      have e1 : ((n / 10 : Nat) : Int) = (n : Int) / 10 := by omega
      have e2 : ((n % 10 : Nat) : Int) = (n : Int) % 10 := by omega
      rw [e1] at hih
      rw [dgL_big h9, e2, strOfNums_append]
      have hsz : (strOfNums (dgL (n / 10))).size ≤ 10 := by
        have := dgL_len 9 (n / 10) (by omega)
        rw [← strI_len, strI_of (dgL_facts _).2.2.2.2.2.1]; exact this
      have hsz1 : ∀ c : Int, (strOfNums [c]).size = 1 := fun c => rfl
      have hsz2 := hsz1 (48 + (n : Int) % 10)
      have hcv0 := conv1_any (48 + (n : Int) % 10)
      have hcA := hide (conv1_at (48 + (n : Int) % 10))
      generalize strOfNums (dgL (n / 10)) = D at *
      clear ih hd e1 e2 hsz1
      go_enter Tryz.func17, Tryz.ntmps17
      go_wp2_with fail
      have hC0 : Below w.heap.size w w.drew := below_drew w
      have q1 : IntKind.u32.wrap ((n : Int) / 10) = (n : Int) / 10 := by rw [IntKind.wrap_u32]; omega
      have q2 : Int.tmod (n : Int) 10 = (n : Int) % 10 := Int.tmod_eq_emod_of_nonneg (by omega)
      have q2b : IntKind.u32.wrap ((n : Int) % 10) = (n : Int) % 10 := by rw [IntKind.wrap_u32]; omega
      have q3 : IntKind.u32.wrap (48 + (n : Int) % 10) = 48 + (n : Int) % 10 := by rw [IntKind.wrap_u32]; omega
      have q4 : IntKind.u8.wrap (48 + (n : Int) % 10) = 48 + (n : Int) % 10 := by rw [IntKind.wrap_u8]; omega
      have hmix : Tryz.prog.follows .mixedOrders = true := by kernel_rfl
      refine (wpIn_wide (n := 0)).1 ?_
      refine wpIn_normal (wpIn_region_any hmix (wpAnyE_sound (C := Below w.heap.size w) (E := fun i => false) _ _ _ _ ?_))
      change wpAnyE _ _ _ _ _ _ _ _ _ _ _ (World.drew _)
      refine wpAnyE_takeD (i := 0) (some 10) (v := .int .u32 (n : Int)) (fun _ => trivial) (by kernel_rfl) rfl rfl (by kernel_rfl) (by kernel_rfl) (by kernel_rfl) (by kernel_rfl) (fun _ _ _ h => by cases h.1) hC0 (Or.inl ⟨by rfl, fun w' hC => by clear hC; first | (go_simp; done) | (go_simp; omega)⟩) ?_
      simp only [Act.put, List.setIfInBounds_toArray, List.set_cons_succ, List.set_cons_zero]
      refine wpAnyE_takeD (i := 1) (some 11) (v := .int .u32 ((n : Int) / 10)) (fun _ => trivial) (by kernel_rfl) rfl rfl (by kernel_rfl) (by kernel_rfl) (by kernel_rfl) (by kernel_rfl) (fun _ _ _ h => by cases h.1) hC0 (Or.inl ⟨by rfl, fun w' hC => by clear hC; first | (go_simp; done) | (go_simp; omega)⟩) ?_
      simp only [Act.put, List.setIfInBounds_toArray, List.set_cons_succ, List.set_cons_zero]
      refine wpAnyE_takeD (i := 3) (some 13) (v := .int .u32 (n : Int)) (fun _ => trivial) (by kernel_rfl) rfl rfl (by kernel_rfl) (by kernel_rfl) (by kernel_rfl) (by kernel_rfl) (fun _ _ _ h => by cases h.1) hC0 (Or.inl ⟨by rfl, fun w' hC => by clear hC; first | (go_simp; done) | (go_simp; omega)⟩) ?_
      simp only [Act.put, List.setIfInBounds_toArray, List.set_cons_succ, List.set_cons_zero]
      refine wpAnyE_takeD (i := 4) (some 14) (v := .int .u32 ((n : Int) % 10)) (fun _ => trivial) (by kernel_rfl) rfl rfl (by kernel_rfl) (by kernel_rfl) (by kernel_rfl) (by kernel_rfl) (fun _ _ _ h => by cases h.1) hC0 (Or.inl ⟨by rfl, fun w' hC => by clear hC; first | (go_simp; done) | (go_simp; omega)⟩) ?_
      simp only [Act.put, List.setIfInBounds_toArray, List.set_cons_succ, List.set_cons_zero]
      refine wpAnyE_takeD (i := 5) (some 15) (v := .int .u32 (48 + (n : Int) % 10)) (fun _ => trivial) (by kernel_rfl) rfl rfl (by kernel_rfl) (by kernel_rfl) (by kernel_rfl) (by kernel_rfl) (fun _ _ _ h => by cases h.1) hC0 (Or.inl ⟨by rfl, fun w' hC => by clear hC; first | (go_simp; done) | (go_simp; omega)⟩) ?_
      simp only [Act.put, List.setIfInBounds_toArray, List.set_cons_succ, List.set_cons_zero]
      refine wpAnyE_takeD (i := 6) (some 16) (v := .int .u8 (48 + (n : Int) % 10)) (fun _ => trivial) (by kernel_rfl) rfl rfl (by kernel_rfl) (by kernel_rfl) (by kernel_rfl) (by kernel_rfl) (fun _ _ _ h => by cases h.1) hC0 (Or.inl ⟨by rfl, fun w' hC => by clear hC; first | (go_simp; done) | (go_simp; omega)⟩) ?_
      simp only [Act.put, List.setIfInBounds_toArray, List.set_cons_succ, List.set_cons_zero]
      refine wpAnyE_ready (rs := [2, 7]) (by kernel_rfl) (by simp) ?_
      refine AllE.cons rfl (fun K hK => ?_) (AllE.cons rfl (fun K hK => ?_) AllE.nil)
      · go_simp
        refine ⟨trivial, rfl, (callsIn_wide.2 (hih (w.drew))).mono ?_⟩
        rintro e w1 ⟨rfl, hb1⟩
        dsimp only
        have hC1 : Below w.heap.size w w1 := (below_drew w).trans (show Below w.heap.size w.drew w1 from hb1)
        refine hK _ _ (.inr hC1) ?_
        clear hK K hb1
        refine wpAnyE_ready (rs := [7]) (by kernel_rfl) (by simp) ?_
        refine AllE.cons rfl (fun K hK => ?_) AllE.nil
        go_simp
        have hC2 : Below w.heap.size w (w1.alloc (.cells #[.int .u8 (48 + (n : Int) % 10)] 5)) := hC1.alloc hC1.size _
        refine hK _ _ (.inr hC2) ?_
        clear hK K
        have hcv := hcv0 w1
        refine wpAnyE_ready (rs := [8]) (by kernel_rfl) (by simp) ?_
        refine AllE.cons rfl (fun K hK => ?_) AllE.nil
        go_simp
        refine hK _ _ (.inr hC2) ?_
        clear hK K hcv
        refine wpAnyE_takeD (i := 9) (some 19) (v := .string (D ++ strOfNums [48 + (n : Int) % 10])) (fun _ => trivial) (by kernel_rfl) rfl rfl (by kernel_rfl) (by kernel_rfl) (by kernel_rfl) (by kernel_rfl) (fun _ _ _ h => by cases h.1) hC2 (Or.inl ⟨by rfl, fun w' hC => by clear hC; first | (go_simp; done) | (go_simp; omega)⟩) ?_
        simp only [Act.put, List.setIfInBounds_toArray, List.set_cons_succ, List.set_cons_zero]
        refine wpAnyE_ready (rs := [10]) (by kernel_rfl) (by simp) ?_
        refine AllE.cons rfl (fun K hK => ?_) AllE.nil
        go_simp
        refine hK _ _ (.inr hC2) ?_
        clear hK K
        refine wpAnyE_done (by kernel_rfl) ⟨rfl, ?_⟩ _
        have HX := hide hC2
        clear hC2
        go_wp2_with fail
        go_ret
        exact ⟨rfl, HX.out⟩
      · go_simp
        have hC1 : Below w.heap.size w (w.drew.alloc (.cells #[.int .u8 (48 + (n : Int) % 10)] 5)) := hC0.alloc hC0.size _
        have hk1 := heap_alloc_new w.drew (.cells #[.int .u8 (48 + (n : Int) % 10)] 5)
        have hcv : (convert 26 9 (.slice (some ⟨w.heap.size, 0, none⟩) 1 1)).run Tryz.prog ((w.alloc (.cells #[.int .u8 (48 + (n : Int) % 10)] 5)).drew) = .ok (.string (strOfNums [48 + (n : Int) % 10])) ((w.alloc (.cells #[.int .u8 (48 + (n : Int) % 10)] 5)).drew) := hcv0 w.drew
        refine hK _ _ (.inr hC1) ?_
        clear hK K
        refine wpAnyE_ready (rs := [2, 8]) (by kernel_rfl) (by simp) ?_
        refine AllE.cons rfl (fun K hK => ?_) (AllE.cons rfl (fun K hK => ?_) AllE.nil)
        · go_simp
          refine ⟨trivial, rfl, (callsIn_wide.2 (hih (w.drew.alloc (.cells #[.int .u8 (48 + (n : Int) % 10)] 5)))).mono ?_⟩
          rintro e w2 ⟨rfl, hb2⟩
          dsimp only
          have hC2 : Below w.heap.size w w2 := hC1.trans (hb2.mono hC1.size)
          have hk2 := (hb2.block w.heap.size (by simp)).trans hk1
          have hcv2 := hcA.out w2 w.heap.size hk2
          refine hK _ _ (.inr hC2) ?_
          clear hK K hb2 hcv hk1 hk2
          refine wpAnyE_ready (rs := [8]) (by kernel_rfl) (by simp) ?_
          refine AllE.cons rfl (fun K hK => ?_) AllE.nil
          go_simp
          refine hK _ _ (.inr hC2) ?_
          clear hK K hcv2
          refine wpAnyE_takeD (i := 9) (some 19) (v := .string (D ++ strOfNums [48 + (n : Int) % 10])) (fun _ => trivial) (by kernel_rfl) rfl rfl (by kernel_rfl) (by kernel_rfl) (by kernel_rfl) (by kernel_rfl) (fun _ _ _ h => by cases h.1) hC2 (Or.inl ⟨by rfl, fun w' hC => by clear hC; first | (go_simp; done) | (go_simp; omega)⟩) ?_
          simp only [Act.put, List.setIfInBounds_toArray, List.set_cons_succ, List.set_cons_zero]
          refine wpAnyE_ready (rs := [10]) (by kernel_rfl) (by simp) ?_
          refine AllE.cons rfl (fun K hK => ?_) AllE.nil
          go_simp
          refine hK _ _ (.inr hC2) ?_
          clear hK K
          refine wpAnyE_done (by kernel_rfl) ⟨rfl, ?_⟩ _
          have HX := hide hC2
          clear hC2
          go_wp2_with fail
          go_ret
          exact ⟨rfl, HX.out⟩
        · go_simp
          refine hK _ _ (.inr hC1) ?_
          clear hK K hcv hk1
          refine wpAnyE_ready (rs := [2]) (by kernel_rfl) (by simp) ?_
          refine AllE.cons rfl (fun K hK => ?_) AllE.nil
          go_simp
          refine ⟨trivial, rfl, (callsIn_wide.2 (hih (w.drew.alloc (.cells #[.int .u8 (48 + (n : Int) % 10)] 5)))).mono ?_⟩
          rintro e w2 ⟨rfl, hb2⟩
          dsimp only
          have hC2 : Below w.heap.size w w2 := hC1.trans (hb2.mono hC1.size)
          refine hK _ _ (.inr hC2) ?_
          clear hK K hb2
          refine wpAnyE_takeD (i := 9) (some 19) (v := .string (D ++ strOfNums [48 + (n : Int) % 10])) (fun _ => trivial) (by kernel_rfl) rfl rfl (by kernel_rfl) (by kernel_rfl) (by kernel_rfl) (by kernel_rfl) (fun _ _ _ h => by cases h.1) hC2 (Or.inl ⟨by rfl, fun w' hC => by clear hC; first | (go_simp; done) | (go_simp; omega)⟩) ?_
          simp only [Act.put, List.setIfInBounds_toArray, List.set_cons_succ, List.set_cons_zero]
          refine wpAnyE_ready (rs := [10]) (by kernel_rfl) (by simp) ?_
          refine AllE.cons rfl (fun K hK => ?_) AllE.nil
          go_simp
          refine hK _ _ (.inr hC2) ?_
          clear hK K
          refine wpAnyE_done (by kernel_rfl) ⟨rfl, ?_⟩ _
          have HX := hide hC2
          clear hC2
          go_wp2_with fail
          go_ret
          exact ⟨rfl, HX.out⟩

theorem refDigitsI_any (v : Int) (w : World) (h0 : 0 ≤ v) (h1 : v < 4294967296) :
    Calls Tryz.prog 17 #[.int .u32 v] w fun e w' => e = .returned (.string (dgS v)) ∧ Below w.heap.size w w' := by
  obtain ⟨n, rfl⟩ := Int.eq_ofNat_of_zero_le h0
  exact refDigits7_any n w (by omega)

end Go.Proofs.YtddackdadebjjaaGreat

/-
  Written of the document: what its walks share.
-/
namespace Go.Proofs.YtddackdadebjjaaGreat
open Go.RowKit
set_option linter.unusedSimpArgs false
set_option maxRecDepth 10000
set_option linter.unusedVariables false

/-- A text of tokens. -/
def wtO (l : List TokT) : ByteArray := strOfNums ((wtAll l).drop 1)
theorem wtO_snoc {l : List TokT} (h : l ≠ []) (t : TokT) : wtO (l ++ [t]) = wtO l ++ strOfNums (32 :: wtS t) := by
  unfold wtO
  rw [← strOfNums_append]
  congr 1
  have e : wtAll (l ++ [t]) = wtAll l ++ (32 :: wtS t) := by simp [wtAll]
  rw [e, List.drop_append_of_le_length]
  cases l with
  | nil => exact absurd rfl h
  | cons a r => simp [wtAll]
theorem wtO_size {l m : List TokT} {B : Nat} (h : l <+: m) (hB : (wtAll m).length ≤ B) : (wtO l).size ≤ B := by
  have hs : (wtO l).size = ((wtAll l).drop 1).length := by unfold wtO; simp [strOfNums, ByteArray.size]
  obtain ⟨r, rfl⟩ := h
  have e : wtAll (l ++ r) = wtAll l ++ wtAll r := by simp [wtAll]
  rw [e, List.length_append] at hB
  rw [hs, List.length_drop]
  omega
theorem wtO_strI {l : List TokT} (h : wOk l = true ∨ True) : strI (wtO l) = (wtAll l).drop 1 := by
  refine strI_of (within_dropX ?_ 1)
  intro z hz
  obtain ⟨t, _, hz⟩ := List.mem_flatMap.1 hz
  rcases List.mem_cons.1 hz with rfl | hz
  · omega
  · unfold wtS at hz
    split at hz
    · rcases List.mem_cons.1 hz with rfl | hz
      · omega
      · exact strI_within _ z hz
    · split at hz
      · rcases List.mem_cons.1 hz with rfl | hz
        · omega
        · rcases List.mem_append.1 hz with hz | hz
          · obtain ⟨c, hc, hz⟩ := List.mem_flatMap.1 hz
            have hw := strI_within t.2.1 c hc
            have a := hexD_within (n := c / 16) (by omega) (by omega)
            have b := hexD_within (n := c % 16) (by omega) (by omega)
            unfold hx1 at hz
            simp only [List.mem_cons, List.not_mem_nil, or_false] at hz
            rcases hz with rfl | rfl | rfl | rfl <;> omega
          · have := List.mem_singleton.1 hz; omega
      · exact strI_within _ z hz
/-- The text ahead of the arguments. -/
theorem wtO_pre (f : Frm) (x : InstT) : wtO (preTk f x) = (if f.2.2.1 then (⟨#[37]⟩ ++ dgS x.2.2.1) ++ ⟨#[32, 61, 32]⟩ else (⟨#[]⟩ : ByteArray)) ++ f.1 ++ (if f.2.1 then ⟨#[32, 37]⟩ ++ dgS x.2.1 else (⟨#[]⟩ : ByteArray)) := by
  apply strI_inj
  rw [wtO_strI (.inr trivial), strI_append, strI_append]
  have a1 : strI (⟨#[37]⟩ : ByteArray) = [37] := rfl
  have a2 : strI (⟨#[32, 61, 32]⟩ : ByteArray) = [32, 61, 32] := rfl
  have a3 : strI (⟨#[32, 37]⟩ : ByteArray) = [32, 37] := rfl
  have a4 : strI (⟨#[]⟩ : ByteArray) = [] := rfl
  have a5 : strI eqS = [61] := rfl
  unfold preTk wtAll
  cases f.2.2.1 <;> cases f.2.1 <;> simp [wtS, strI_append, a1, a2, a3, a4, a5]
theorem arg_take (f : Frm) (l : List ArgT) (k : Nat) (h : k < l.length) : (argTks f l).take (k + 1) = (argTks f l).take k ++ [argTk (letterI f k) (nthA l k)] := by
  rw [List.take_succ_eq_append_getElem (by rw [argTks_len]; exact h)]
  congr 2
  have := argTks_nth f l k h
  rw [← this]
  simp [nthT, List.getD, argTks_len, h]
theorem pre_ne (f : Frm) (x : InstT) (r : List TokT) : preTk f x ++ r ≠ [] := by
  intro h
  have := congrArg List.length h
  unfold preTk at this
  simp at this
/-- One argument more. -/
theorem wtO_arg (x : InstT) (k : Nat) (h : k < x.2.2.2.length) : wtO (preTk (lookF refT x.1).1 x ++ (argTks (lookF refT x.1).1 x.2.2.2).take (k + 1)) = wtO (preTk (lookF refT x.1).1 x ++ (argTks (lookF refT x.1).1 x.2.2.2).take k) ++ strOfNums (32 :: wtS (argTk (letterI (lookF refT x.1).1 k) (nthA x.2.2.2 k))) := by
  rw [arg_take _ _ _ h, ← List.append_assoc, wtO_snoc (pre_ne _ _ _)]
theorem wtO_all (x : InstT) : wtO (preTk (lookF refT x.1).1 x ++ (argTks (lookF refT x.1).1 x.2.2.2).take x.2.2.2.length) = wtO (tksI x) := by
  unfold tksI
  rw [List.take_of_length_le (by rw [argTks_len]; omega)]
theorem wtO_front (x : InstT) (k : Nat) {B : Nat} (hB : (wtAll (tksI x)).length ≤ B) : (wtO (preTk (lookF refT x.1).1 x ++ (argTks (lookF refT x.1).1 x.2.2.2).take k)).size ≤ B := by
  refine wtO_size (m := tksI x) ?_ hB
  unfold tksI
  exact List.prefix_append_right_inj _ |>.2 (List.take_prefix _ _)
theorem piece1 {c : Int} {y : ArgT} (h : y.1 = 1) : strOfNums (32 :: wtS (argTk c y)) = ⟨#[32, 37]⟩ ++ dgS y.2.1 := by
  apply strI_inj
  have e : argTk c y = (2, dgS y.2.1, 0) := by unfold argTk; rw [if_pos h]
  have a3 : strI (⟨#[32, 37]⟩ : ByteArray) = [32, 37] := rfl
  rw [e, strI_append, a3]
  have ew : wtS (2, dgS y.2.1, 0) = 37 :: strI (dgS y.2.1) := rfl
  rw [ew, strI_of (within_cons (by omega) (by omega) (within_cons (by omega) (by omega) (strI_within _)))]
  rfl
theorem piece2 {c : Int} {y : ArgT} (h : y.1 = 2) : strOfNums (32 :: wtS (argTk c y)) = ⟨#[32]⟩ ++ dgS y.2.1 := by
  apply strI_inj
  have e : argTk c y = (3, dgS y.2.1, 0) := by unfold argTk; rw [if_neg (by omega), if_pos h]
  have a3 : strI (⟨#[32]⟩ : ByteArray) = [32] := rfl
  rw [e, strI_append, a3]
  have ew : wtS (3, dgS y.2.1, 0) = strI (dgS y.2.1) := rfl
  rw [ew, strI_of (within_cons (by omega) (by omega) (strI_within _))]
  rfl
theorem hxL_within {l : List Int} (h : Within 256 l) : Within 256 (hxL l) := fun z hz => by
  obtain ⟨c, hc, hz⟩ := List.mem_flatMap.1 hz
  have hw := h c hc
  have a := hexD_within (n := c / 16) (by omega) (by omega)
  have b := hexD_within (n := c % 16) (by omega) (by omega)
  unfold hx1 at hz
  simp only [List.mem_cons, List.not_mem_nil, or_false] at hz
  rcases hz with rfl | rfl | rfl | rfl <;> omega
/-- The bytes of a text's first k bytes. -/
def hxS (s : ByteArray) (k : Nat) : ByteArray := strOfNums (hxL ((strI s).take k))
theorem hxS_zero (s : ByteArray) : hxS s 0 = ⟨#[]⟩ := rfl
theorem piece3 {c : Int} {y : ArgT} (h : y.1 = 3) : strOfNums (32 :: wtS (argTk c y)) = ⟨#[32, 34]⟩ ++ hxS y.2.2 y.2.2.size ++ ⟨#[34]⟩ := by
  apply strI_inj
  have e : argTk c y = (4, y.2.2, 0) := by unfold argTk; rw [if_neg (by omega), if_neg (by omega), if_pos h]
  have a3 : strI (⟨#[32, 34]⟩ : ByteArray) = [32, 34] := rfl
  have a4 : strI (⟨#[34]⟩ : ByteArray) = [34] := rfl
  have a5 : strI (hxS y.2.2 y.2.2.size) = hxL (strI y.2.2) := by
    unfold hxS
    rw [List.take_of_length_le (by rw [strI_len]; omega)]
    exact strI_of (hxL_within (strI_within _))
  rw [e, strI_append, strI_append, a3, a4, a5]
  have ew : wtS (4, y.2.2, 0) = 34 :: (hxL (strI y.2.2) ++ [34]) := rfl
  rw [ew, strI_of (within_cons (by omega) (by omega) (within_cons (by omega) (by omega) (within_appX (hxL_within (strI_within _)) (within_one (by omega) (by omega)))))]
  simp
theorem piece4 {c : Int} {y : ArgT} (h1 : y.1 ≠ 1) (h2 : y.1 ≠ 2) (h3 : y.1 ≠ 3) : strOfNums (32 :: wtS (argTk c y)) = ⟨#[32]⟩ ++ enumS c y.2.1 := by
  apply strI_inj
  have e : argTk c y = (1, enumS c y.2.1, 0) := by unfold argTk; rw [if_neg h1, if_neg h2, if_neg h3]
  have a3 : strI (⟨#[32]⟩ : ByteArray) = [32] := rfl
  rw [e, strI_append, a3]
  have ew : wtS (1, enumS c y.2.1, 0) = strI (enumS c y.2.1) := rfl
  rw [ew, strI_of (within_cons (by omega) (by omega) (strI_within _))]
  rfl
/-- The document's digits. -/
def hxdS : ByteArray := ⟨#[48, 49, 50, 51, 52, 53, 54, 55, 56, 57, 97, 98, 99, 100, 101, 102]⟩
theorem hxdS_at {n : Nat} (h : n < 16) : hxdS.extract n (n + 1) = strOfNums [hexD (n : Int)] := by
  have : ∀ m : Fin 16, hxdS.extract m.val (m.val + 1) = strOfNums [hexD (m.val : Int)] := by decide +kernel
  exact this ⟨n, h⟩
theorem hxS_next (s : ByteArray) (k : Nat) (h : k < s.size) : hxS s (k + 1) = ((hxS s k ++ ⟨#[92, 120]⟩) ++ hxdS.extract (s[k].toNat / 16) (s[k].toNat / 16 + 1)) ++ hxdS.extract (s[k].toNat % 16) (s[k].toNat % 16 + 1) := by
  have hb := s[k].toNat_lt
  rw [hxdS_at (by omega), hxdS_at (by omega)]
  have e : nth (strI s) k = (s[k].toNat : Int) := nth_strI s k h
  unfold hxS
  rw [take_snoc _ _ (by rw [strI_len]; exact h), e]
  have e2 : hxL ((strI s).take k ++ [(s[k].toNat : Int)]) = hxL ((strI s).take k) ++ hx1 (s[k].toNat : Int) := by simp [hxL]
  rw [e2, strOfNums_append]
  have e3 : strOfNums (hx1 (s[k].toNat : Int)) = (⟨#[92, 120]⟩ : ByteArray) ++ strOfNums [hexD ((s[k].toNat / 16 : Nat) : Int)] ++ strOfNums [hexD ((s[k].toNat % 16 : Nat) : Int)] := by
    unfold hx1
    rw [show ((s[k].toNat / 16 : Nat) : Int) = (s[k].toNat : Int) / 16 by omega, show ((s[k].toNat % 16 : Nat) : Int) = (s[k].toNat : Int) % 16 by omega]
    have : (⟨#[92, 120]⟩ : ByteArray) = strOfNums [92, 120] := by decide
    rw [this, ← strOfNums_append, ← strOfNums_append]
    rfl
  rw [e3, ByteArray.append_assoc, ByteArray.append_assoc, ByteArray.append_assoc]
theorem hxS_size (s : ByteArray) (k : Nat) : (hxS s k).size ≤ 4 * s.size := by
  have : ∀ l : List Int, (hxL l).length = 4 * l.length := fun l => by
    induction l with
    | nil => rfl
    | cons c l ih => simp [hxL, hx1] at ih ⊢; omega
  have e : (hxS s k).size = (hxL ((strI s).take k)).length := by unfold hxS; simp [strOfNums, ByteArray.size]
  rw [e, this, List.length_take, strI_len]
  omega

theorem growW {W w w' : World} (h : Below W.heap.size W w) (hb : Below w.heap.size w w') : Below W.heap.size W w' := h.trans (hb.mono h.size)
theorem enumS_size (c n : Int) : (enumS c n).size ≤ 1000 := by
  by_cases h : enumB c n = true
  · exact (name_enum h).2.2.2
  · unfold enumB at h
    unfold enumS
    cases e : namesT.find? (isNum c n) with
    | none => decide
    | some x => rw [e] at h; simp at h
/-- What stands while a line is written: the boxes of the instruction and of its form. -/
structure WrB (w W : World) (xo xt xr : Int) (ax : Option Addr) (n cx : Nat) (B : Nat) (f : Frm) (l : List ArgT) : Prop where
  ibox : W.heap[w.heap.size]? = some (.cells #[.int .u16 xo, .int .u32 xt, .int .u32 xr, .slice ax n cx] 41 (0, 0))
  fbox : W.heap[B]? = some (.cells (frmCells xo f) 58 (0, 0))
  av : ArgsV W ax l
  bel : Below w.heap.size w W
theorem WrB.below {w W W' : World} {xo xt xr : Int} {ax : Option Addr} {n cx : Nat} {B : Nat} {f : Frm} {l : List ArgT} (h : WrB w W xo xt xr ax n cx B f l) (hb : Below W.heap.size W W') : WrB w W' xo xt xr ax n cx B f l :=
  ⟨(hb.block _ (Array.getElem?_eq_some_iff.1 h.ibox).1).trans h.ibox, (hb.block _ (Array.getElem?_eq_some_iff.1 h.fbox).1).trans h.fbox, h.av.below hb, h.bel.trans (hb.mono h.bel.size)⟩

end Go.Proofs.YtddackdadebjjaaGreat

/-
  Written of the document: an instruction's line. Here: the form has a result: true, a type: true.
-/
namespace Go.Proofs.YtddackdadebjjaaGreat
open Go.RowKit
set_option linter.unusedSimpArgs false
set_option maxRecDepth 10000
set_option linter.unusedVariables false

set_option maxHeartbeats 8000000 in
theorem refWritten7_tt (x : InstT) (ax : Option Addr) (n cx : Nat) (w : World) (hv : ArgsV w ax x.2.2.2) (hl : x.2.2.2.length = n) (hn : n ≤ 140737488351232) (hx : InstOk x) (hk : (lookF refT x.1).2 = true) (hsz : (wtAll (tksI x)).length ≤ 1099511627776) (hrs : (lookF refT x.1).1.2.2.1 = true) (hty : (lookF refT x.1).1.2.1 = true) :
    Calls Tryz.prog 10 #[.agg #[.int .u16 x.1, .int .u32 x.2.1, .int .u32 x.2.2.1, .slice ax n cx]] w fun e w' => e = .returned (.string (wtO (tksI x))) ∧ Below w.heap.size w w' := by
  have hOf := fun wx => refOf_any x.1 wx
  unfold ofV formV at hOf
  rw [hk, if_pos rfl] at hOf
  have HDR := hide fun wx => refDigitsI_any x.2.2.1 wx hx.2.2.2.2.1 hx.2.2.2.2.2.1
  have HDT := hide fun wx => refDigitsI_any x.2.1 wx hx.2.2.1 hx.2.2.2.1
  have HDA := hide fun wx k (h : k < n) => refDigitsI_any (nthA x.2.2.2 k).2.1 wx (hx.2.2.2.2.2.2.1 k (by omega)).2.2.1 (hx.2.2.2.2.2.2.1 k (by omega)).2.2.2.1
  have HLE := hide fun wx k (h : k < n) => refLetter_any x.1 ((k : Nat) : Int) wx (by omega)
  have HEN := hide fun wx c v => refEnum_any c v wx
  have HAS := hide fun k (h : k < n) => (hx.2.2.2.2.2.2.1 k (by omega)).2.2.2.2
  obtain ⟨T, hT⟩ : ∃ T : Nat → ByteArray, ∀ k, T k = wtO (preTk (lookF refT x.1).1 x ++ (argTks (lookF refT x.1).1 x.2.2.2).take k) := ⟨_, fun _ => rfl⟩
  have HTZ := hide fun k => (by rw [hT]; exact wtO_front x k hsz : (T k).size ≤ 1099511627776)
  have HTN := hide fun k (h : k < n) => (by rw [hT, hT]; exact wtO_arg x k (by omega) : T (k + 1) = T k ++ strOfNums (32 :: wtS (argTk (letterI (lookF refT x.1).1 k) (nthA x.2.2.2 k))))
  have HTA : Hid (T n = wtO (tksI x)) := by show _ = _; rw [hT, ← hl]; exact wtO_all x
  have HT0 : Hid (T 0 = ((((⟨#[37]⟩ ++ dgS x.2.2.1) ++ ⟨#[32, 61, 32]⟩) ++ (lookF refT x.1).1.1) ++ ⟨#[32, 37]⟩) ++ dgS x.2.1) := by
    show _ = _
    rw [hT, List.take_zero, List.append_nil, wtO_pre, hrs, hty]
    apply strI_inj
    have a4 : strI (⟨#[]⟩ : ByteArray) = [] := rfl
    simp [strI_append, a4]
  have HDZ := hide (And.intro (dgS_size hx.2.2.2.2.2.1) (dgS_size hx.2.2.2.1))
  have HAZ := hide fun k (h : k < n) => dgS_size (hx.2.2.2.2.2.2.1 k (by omega)).2.2.2.1
  have HNM : Hid ((lookF refT x.1).1.1.size ≤ 1000) := (name_op hk).choose_spec.2.2.2.1
  have HOf := hide hOf
  have HV := hide hv
  have HL := hide hl
  have HQ : Hid (∀ r : ByteArray, r = T n → r = wtO (tksI x)) := fun r h => h.trans HTA.out
  clear hOf hT HTA hsz hx hk hv hl
  generalize wtO (tksI x) = RES at *
  generalize (lookF refT x.1).1 = f at *
  obtain ⟨nm, ty, rs, fx, rp, mo, pa⟩ := f
  simp only at hrs hty HOf HT0 HNM
  subst hrs hty
  obtain ⟨xo, xt, xr, l⟩ := x
  simp only at HDR HDT HDA HLE HAS HTN HT0 HOf HV HL HDZ HAZ ⊢
  have hba : Below w.heap.size w (w.alloc (.cells #[.int .u16 xo, .int .u32 xt, .int .u32 xr, .slice ax n cx] 41)) := (Below.refl _ w).alloc (Nat.le_refl _) _
  have HM0 := hide (heap_alloc_new w (.cells #[.int .u16 xo, .int .u32 xt, .int .u32 xr, .slice ax n cx] 41))
  have HB0 := hide hba
  have hof := HOf.out (w.alloc (.cells #[.int .u16 xo, .int .u32 xt, .int .u32 xr, .slice ax n cx] 41))
  clear hba HOf
  go_enter Tryz.func10, Tryz.ntmps10
  go_wp2_with fail
  generalize w.alloc (.cells #[.int .u16 xo, .int .u32 xt, .int .u32 xr, .slice ax n cx] 41) = W0 at *
  refine hof.mono ?_
  rintro e w1 ⟨rfl, hb1⟩
  have hba1 : Below w1.heap.size w1 (w1.alloc (.cells #[.int .u16 xo, .string nm, .bool true, .bool true, .string fx, .string rp, .int .i64 mo, .int .u8 pa] 58)) := (Below.refl _ w1).alloc (Nat.le_refl _) _
  have hb01 := hb1.trans (hba1.mono hb1.size)
  have HW : Hid (WrB w (w1.alloc (.cells #[.int .u16 xo, .string nm, .bool true, .bool true, .string fx, .string rp, .int .i64 mo, .int .u8 pa] 58)) xo xt xr ax n cx w1.heap.size (nm, true, true, fx, rp, mo, pa) l) := ⟨(hb01.block _ (Array.getElem?_eq_some_iff.1 HM0.out).1).trans HM0.out, heap_alloc_new w1 _, (HV.out.below HB0.out).below hb01, HB0.out.trans (hb01.mono HB0.out.size)⟩
  have i1 := (one_block HW.out.ibox).1 1
  have zn := HNM.out
  obtain ⟨zr, zt⟩ := HDZ.out
  have i2 := (one_block HW.out.ibox).1 2
  have i3 := (one_block HW.out.ibox).1 3
  clear hof hb1 hba1 hb01 HM0 HB0 HV
  go_wp2_with fail
  generalize w1.alloc (.cells #[.int .u16 xo, .string nm, .bool true, .bool true, .string fx, .string rp, .int .i64 mo, .int .u8 pa] 58) = W1 at *
  refine (HDR.out W1).mono ?_
  rintro e w2 ⟨rfl, hb2⟩
  have HW2 := hide (HW.out.below hb2)
  clear hb2 HW i1 i2 i3
  have i1 := (one_block HW2.out.ibox).1 1
  have i3 := (one_block HW2.out.ibox).1 3
  obtain ⟨f0, f1, f2, f3, f4, f5, f6, f7⟩ := frm_cells HW2.out.fbox
  clear f0 f4 f5 f6 f7
  go_wp2_with fail
  refine (HDT.out w2).mono ?_
  rintro e w3 ⟨rfl, hb3⟩
  have HW3 := hide (HW2.out.below hb3)
  clear hb3 HW2
  clear i1 i3 f1 f2 f3
  have i3 := (one_block HW3.out.ibox).1 3
  obtain ⟨f0, f1, f2, f3, f4, f5, f6, f7⟩ := frm_cells HW3.out.fbox
  clear f0 f4 f5 f6 f7
  go_wp2_with fail
  clear i3
  generalize w1.heap.size = FBX at *
  go_loopw [5, 6] (fun s i wr => ∃ k : Nat, k ≤ n ∧ i = .int .i64 k ∧ s = .string (T k) ∧ WrB w wr xo xt xr ax n cx FBX (nm, true, true, fx, rp, mo, pa) l) (fun _ i _ => n - (intOf i).toNat)
  case atStart => exact ⟨0, Nat.zero_le _, rfl, by rw [HT0.out], HW3.out⟩
  case round =>
    obtain ⟨k, hk, rfl, rfl, hR⟩ := hrel
    clear HW3
    have HR := hide hR
    have i3 := (one_block hR.ibox).1 3
    have i0 := (one_block hR.ibox).1 0
    have hTk := HTZ.out k
    by_cases hlt : k < n
    · have HLT := hide hlt
      have hki : (k : Int) < (n : Int) := by omega
      have hk0 : (0 : Int) ≤ (k : Int) := by omega
      obtain ⟨b, o, rfl, hbs, a0, a1, a2⟩ := hR.av k (by rw [HL.out]; exact hlt)
      have hTn := HTN.out k hlt
      have hda := hide fun wx => HDA.out wx k hlt
      have haz := HAZ.out k hlt
      have has := HAS.out k hlt
      have hle := hide fun wx => HLE.out wx k hlt
      generalize nthA l k = y at *
      have hba : Below wr.heap.size wr (wr.alloc (.cells #[.int .u8 y.1, .int .u32 y.2.1, .string y.2.2] 62)) := (Below.refl _ wr).alloc (Nat.le_refl _) _
      have HRA := hide (hR.below hba)
      have hab := heap_alloc_new wr (.cells #[.int .u8 y.1, .int .u32 y.2.1, .string y.2.2] 62)
      clear hR hba
      by_cases h1 : y.1 = 1
      · have HE : Hid (T (k + 1) = (T k ++ ⟨#[32, 37]⟩) ++ dgS y.2.1) := by show _ = _; rw [hTn, piece1 h1, ByteArray.append_assoc]
        obtain ⟨y0, y1, y2⟩ := y
        simp only at h1 a0 a1 a2 hTn hda haz has HRA HE
        subst h1
        have hd := hda.out (wr.alloc (.cells #[.int .u8 1, .int .u32 y1, .string y2] 62))
        clear hTn hab
        go_wp2_with fail
        generalize wr.alloc (.cells #[.int .u8 1, .int .u32 y1, .string y2] 62) = WA at *
        refine hd.mono ?_
        rintro e w4 ⟨rfl, hb4⟩
        have HR4 := hide (HRA.out.below hb4)
        clear hd hb4 HRA i3 i0 a0 a1 a2
        go_wp2_with fail
        go_roundw
        case rel => exact ⟨k + 1, by have := HLT.out; omega, by go_num, by rw [HE.out], HR4.out⟩
        case measure => have := HLT.out; simp [intOf]; omega
      by_cases h2 : y.1 = 2
      · have HE : Hid (T (k + 1) = (T k ++ ⟨#[32]⟩) ++ dgS y.2.1) := by show _ = _; rw [hTn, piece2 h2, ByteArray.append_assoc]
        obtain ⟨y0, y1, y2⟩ := y
        simp only at h2 a0 a1 a2 hTn hda haz has HRA HE
        subst h2
        have hd := hda.out (wr.alloc (.cells #[.int .u8 2, .int .u32 y1, .string y2] 62))
        clear hTn hab h1
        go_wp2_with fail
        generalize wr.alloc (.cells #[.int .u8 2, .int .u32 y1, .string y2] 62) = WA at *
        refine hd.mono ?_
        rintro e w4 ⟨rfl, hb4⟩
        have HR4 := hide (HRA.out.below hb4)
        clear hd hb4 HRA i3 i0 a0 a1 a2
        go_wp2_with fail
        go_roundw
        case rel => exact ⟨k + 1, by have := HLT.out; omega, by go_num, by rw [HE.out], HR4.out⟩
        case measure => have := HLT.out; simp [intOf]; omega
      by_cases h3 : y.1 = 3
      · have HE : Hid (T (k + 1) = ((T k ++ ⟨#[32, 34]⟩) ++ hxS y.2.2 y.2.2.size) ++ ⟨#[34]⟩) := by show _ = _; rw [hTn, piece3 h3, ByteArray.append_assoc, ByteArray.append_assoc, ByteArray.append_assoc]
        obtain ⟨y0, y1, y2⟩ := y
        simp only at h3 a0 a1 a2 hTn hda haz has HRA HE hab
        subst h3
        have HAB := hide hab
        clear hTn hab h1 h2 i0
        go_wp2_with fail
        generalize wr.alloc (.cells #[.int .u8 3, .int .u32 y1, .string y2] 62) = WA at *
        generalize wr.heap.size = AB at *
        rename World => wo
        clear i3 a0 a1 a2
        go_loopw [8, 9] (fun q i wr => ∃ j : Nat, j ≤ y2.size ∧ i = .int .i64 j ∧ q = .string (hxS y2 j) ∧ WrB w wr xo xt xr (some ⟨b, o, none⟩) n cx FBX (nm, true, true, fx, rp, mo, pa) l ∧ wr.heap[AB]? = some (.cells #[.int .u8 3, .int .u32 y1, .string y2] 62 (0, 0))) (fun _ i _ => y2.size - (intOf i).toNat)
        case atStart => exact ⟨0, Nat.zero_le _, rfl, by rw [hxS_zero], HRA.out, HAB.out⟩
        case round =>
          obtain ⟨j, hj, rfl, rfl, hR, hA⟩ := hrel
          have HR2 := hide hR
          have HA2 := hide hA
          have c2 := (one_block hA).1 2
          have hzq := hxS_size y2 j
          clear hR hA HRA HAB
          by_cases hjl : j < y2.size
          · have hjn := hxS_next y2 j hjl
            have HJ := hide hjl
            have hcb := y2[j].toNat_lt
            have hji : (j : Int) < (y2.size : Int) := by omega
            have hj0 : (0 : Int) ≤ (j : Int) := by omega
            have HJN := hide hjn
            have q1 : IntKind.u8.wrap ((y2[j].toNat : Int) / 16) = (y2[j].toNat : Int) / 16 := by rw [IntKind.wrap_u8]; omega
            have q2 : Int.tmod (y2[j].toNat : Int) 16 = (y2[j].toNat : Int) % 16 := Int.tmod_eq_emod_of_nonneg (by omega)
            have q3 : IntKind.u8.wrap ((y2[j].toNat : Int) / 16 + 1) = (y2[j].toNat : Int) / 16 + 1 := by rw [IntKind.wrap_u8]; omega
            have q4 : IntKind.u8.wrap ((y2[j].toNat : Int) % 16 + 1) = (y2[j].toNat : Int) % 16 + 1 := by rw [IntKind.wrap_u8]; omega
            have q5 : IntKind.u8.wrap ((y2[j].toNat : Int) % 16) = (y2[j].toNat : Int) % 16 := by rw [IntKind.wrap_u8]; omega
            clear hjn
            go_wp2_with fail
            go_quiet (fail)
            clear q1 q2 q3 q4 q5
            go_wp2_with fail
            have hbq : Below wr.heap.size wr (wr.drewN nq) := bel_drewN (Below.refl _ wr) nq
            exact ⟨⟨j + 1, HJ.out, rfl, by rw [HJN.out]; rfl, HR2.out.below hbq, (hbq.block _ (Array.getElem?_eq_some_iff.1 HA2.out).1).trans HA2.out⟩, by have := HJ.out; simp [intOf]; omega⟩
          · obtain rfl : j = y2.size := by omega
            go_wp2_with fail
            go_roundw
            case rel => exact ⟨k + 1, by have := HLT.out; omega, by go_num, by rw [HE.out], HR2.out⟩
            case measure => have := HLT.out; simp [intOf]; omega
      · have HE : Hid (T (k + 1) = (T k ++ ⟨#[32]⟩) ++ enumS (letterI (nm, true, true, fx, rp, mo, pa) (k : Int)) y.2.1) := by show _ = _; rw [hTn, piece4 h1 h2 h3, ByteArray.append_assoc]
        obtain ⟨y0, y1, y2⟩ := y
        simp only at h1 h2 h3 a0 a1 a2 hTn hda haz has HRA HE hab
        have g1 : (y0 == 1) = false := by simpa using h1
        have g2 : (y0 == 2) = false := by simpa using h2
        have g3 : (y0 == 3) = false := by simpa using h3
        have HAB := hide hab
        have hen := hide fun wx => HEN.out wx (letterI (nm, true, true, fx, rp, mo, pa) (k : Int)) y1
        generalize letterI (nm, true, true, fx, rp, mo, pa) (k : Int) = c at *
        have hez := enumS_size c y1
        clear hTn hab h1 h2 h3 i0
        go_wp2_with fail
        generalize wr.alloc (.cells #[.int .u8 y0, .int .u32 y1, .string y2] 62) = WA at *
        generalize wr.heap.size = AB at *
        clear i3 a0 a1 a2
        have hK : ∀ wx, Below WA.heap.size WA wx → (wx.cell? ⟨w.heap.size, 0, none⟩ = some (.int .u16 xo) ∧ wx.cell? ⟨AB, 1, none⟩ = some (.int .u32 y1)) := fun wx h => ⟨(one_block (HRA.out.below h).ibox).1 0, (one_block ((h.block _ (Array.getElem?_eq_some_iff.1 HAB.out).1).trans HAB.out)).1 1⟩
        have hd := below_drew WA
        go_region_held2 (fun wx => Below WA.heap.size WA wx ∧ (wx.cell? ⟨w.heap.size, 0, none⟩ = some (.int .u16 xo) ∧ wx.cell? ⟨AB, 1, none⟩ = some (.int .u32 y1)))
          (exact ⟨by assumption, hK _ (by assumption)⟩)
          (first
            | (go_at_call 21; with_reducible refine (hle.out _).mono ?_; rintro e w' ⟨rfl, hbx⟩; have hby := growW (by assumption) hbx; clear hbx)
            | (go_at_call 20; with_reducible refine (hen.out _).mono ?_; rintro e w' ⟨rfl, hbx⟩; have hby := growW (by assumption) hbx; clear hbx))
        rename World => w4
        have hb4 : Below WA.heap.size WA w4 := by assumption
        have HR4 := hide (HRA.out.below hb4)
        clear hK hd hb4 HRA HAB
        go_wp2_with fail
        go_roundw
        case rel => exact ⟨k + 1, by have := HLT.out; omega, by go_num, by rw [HE.out], HR4.out⟩
        case measure => have := HLT.out; simp [intOf]; omega
    · obtain rfl : k = n := by omega
      have HB := hide hR.bel
      clear hR HR
      go_wp2_with fail
      go_ret
      exact ⟨by rw [HQ.out _ rfl]; rfl, HB.out⟩

end Go.Proofs.YtddackdadebjjaaGreat
