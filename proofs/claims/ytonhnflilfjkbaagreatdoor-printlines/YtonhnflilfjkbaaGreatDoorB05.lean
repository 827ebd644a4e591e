/-
  Texts laid together in one: Ref03Names, Ref03Kind, GrammarFits, Boxes, GrammarEnums.
-/
import Derived.WalkSpells
import Derived.WalkMore
import Derived.Laws.AppendOwn
import Derived.Deep.AppendLies
import Derived.Test.YtonhnflilfjkbaaGreatDoorB04
import Derived.Deep.QuietTactic
import Derived.BigQuiet
import Derived.RangeFuncNested
import Derived.RangeFuncBound
import Derived.Test.YtonhnflilfjkbaaGreatDoorB02
import Derived.RangeFuncCalls
import Derived.RangeFuncLeaves
import Derived.Shelf.Abstract
import Derived.Shelf.RegionOpen
import Derived.WalkKit
import Derived.OwnWalkIn
import Derived.TacticsInMore
import Derived.LoopNIn
import Derived.LoopIn
/-
  What Names of the document's answer returns: a list of its own with all enumerants, in order.
-/
namespace Go.Proofs.YtonhnflilfjkbaaGreatDoor
open Go.RowKit
set_option maxRecDepth 10000
set_option linter.unusedVariables false
set_option linter.unusedSimpArgs false

/-- An enumerant as its cells. -/
def nmCells (x : Int × Int × ByteArray) : List Value := [.int .u8 x.1, .int .u32 x.2.1, .string x.2.2]

/-- 'l = append(l, Name{..})'. -/
def nmRow (top : Nat) : List Oper → Option (Int × Int × ByteArray)
  | [⟨some a, .move (.tmp 1), _, _, _, none⟩, ⟨some b, .build T ⟨[(0, .const (.int .u8 l)), (1, .const (.int .u32 k)), (2, .const (.string s))]⟩, _, _, _, none⟩, ⟨some c, .buildSlice S 1 ⟨[(0, .tmp b')]⟩, _, _, _, none⟩, ⟨some d, .call ⟨.builtin .append, ⟨[.tmp a', .tmp c']⟩, ⟨[S1, S2]⟩⟩, _, _, _, none⟩, ⟨some 1, .assign (.tmp d'), _, _, _, none⟩] =>
    if T = 178 ∧ S = 175 ∧ S1 = 175 ∧ S2 = 175 ∧ a' = a ∧ b' = b ∧ c' = c ∧ d' = d ∧ 2 ≤ a ∧ a < b ∧ b < c ∧ c < d ∧ d < top then some (l, k, s) else none
  | _ => none

theorem wp_nmRow {top : Nat} {ops : Array Oper} {x : Int × Int × ByteArray} (h : nmRow top ops.toList = some x) {id : Nat} {Q : Exit → Act → World → Prop} {a : Act} {w : World} (hs : a.tmps.size = top) {base : Nat} {v : Value} {n : Nat} {xs : List Value} (h1 : a.tmps.getD 1 undef = v)
    (hown : w.ownsRow base 178 3 v n xs) (hn : n ≤ 1000) (hbase : base ≤ w.heap.size)
    (hQ : ∀ a' w' v', a'.tmps.size = top → a'.defers = a.defers → a'.tmps.getD 1 undef = v' → w'.ownsRow base 178 3 v' (n + 1) (xs ++ nmCells x) → Below base w w' → Q .normal a' w') : (Code.region id ops false).wp Tryz.prog Q a w := by
  refine wp_region_list ?_
  generalize ops.toList = l at *
  unfold nmRow at h
  split at h
  case h_2 => cases h
  rename_i r1 y1 y2 y3 r2 T l1 k1 s1 y4 y5 y6 r3 S b' y7 y8 y9 r4 a' c' S1 S2 y10 y11 y12 d' y13 y14 y15
  split at h
  case isFalse => cases h
  rename_i hh
  obtain ⟨rfl, rfl, rfl, rfl, rfl, rfl, rfl, rfl, q1, q2, q3, q4, q5⟩ := hh
  cases h
  have q1 : (2 : Nat) ≤ a' := q1
  have q2 : @LT.lt Nat _ a' b' := q2
  have q3 : @LT.lt Nat _ b' c' := q3
  have q4 : @LT.lt Nat _ c' d' := q4
  have q5 : @LT.lt Nat _ d' top := q5
  have e1 : a.tmps[1]?.getD undef = v := by rw [← Array.getD_eq_getD_getElem?]; exact h1
  refine wpList_plain rfl fun K hK => op_value (v := v) (by simp [execOp, go_sem, e1]) (hK _ _ ?_)
  clear hK K
  have g : ∀ (t : Nat) (A : Act) (u : Value) (m : Nat), t < A.tmps.size → (A.put (some t) u).tmps[m]?.getD undef = if t = m then u else A.tmps[m]?.getD undef := fun t A u m ht => by
    rw [← Array.getD_eq_getD_getElem?, ← Array.getD_eq_getD_getElem?, getD_put]
    by_cases e : t = m
    · rw [if_pos ⟨e, by omega⟩, if_pos e]
    · rw [if_neg (fun h => e h.1), if_neg e]
  have sz : ∀ (t : Nat) (A : Act) (u : Value), (A.put (some t) u).tmps.size = A.tmps.size := fun t A u => by simp [Act.put]
  generalize hA1 : a.put (some a') v = A1
  have sA1 : A1.tmps.size = top := by rw [← hA1, sz, hs]
  have dA1 : A1.defers = a.defers := by rw [← hA1]; simp [Act.put]
  have A1a : A1.tmps[a']?.getD undef = v := by rw [← hA1, g _ _ _ _ (by omega), if_pos rfl]
  refine wpList_plain rfl fun K hK => op_value (v := .agg #[.int .u8 l1, .int .u32 k1, .string s1]) (by simp [execOp, go_sem]) (hK _ _ ?_)
  clear hK K
  generalize hA2 : A1.put (some b') _ = A2
  have sA2 : A2.tmps.size = top := by rw [← hA2, sz, sA1]
  have dA2 : A2.defers = a.defers := by rw [← hA2]; simp [Act.put, dA1]
  have A2a : A2.tmps[a']?.getD undef = v := by rw [← hA2, g _ _ _ _ (by omega), if_neg (by omega)]; exact A1a
  have A2b : A2.tmps[b']?.getD undef = .agg #[.int .u8 l1, .int .u32 k1, .string s1] := by rw [← hA2, g _ _ _ _ (by omega), if_pos rfl]
  refine wpList_plain rfl fun K hK => op_new (v := .slice (some ⟨w.heap.size, 0, none⟩) 1 1) (w' := w.alloc (.cells #[.int .u8 l1, .int .u32 k1, .string s1] 178)) (by simp [execOp, go_sem, A2b]) (hK _ _ ?_)
  clear hK K
  generalize hA3 : A2.put (some c') _ = A3
  have sA3 : A3.tmps.size = top := by rw [← hA3, sz, sA2]
  have dA3 : A3.defers = a.defers := by rw [← hA3]; simp [Act.put, dA2]
  have A3a : A3.tmps[a']?.getD undef = v := by rw [← hA3, g _ _ _ _ (by omega), if_neg (by omega)]; exact A2a
  have A3c : A3.tmps[c']?.getD undef = .slice (some ⟨w.heap.size, 0, none⟩) 1 1 := by rw [← hA3, g _ _ _ _ (by omega), if_pos rfl]
  obtain ⟨i0, hi, hz, hz1, hz2, hz3⟩ : ∃ i0, Tryz.prog.info? 178 = some i0 ∧ i0.zero = some (.agg #[.int .u8 0, .int .u32 0, .string ⟨#[]⟩]) ∧ i0.size = 3 ∧ i0.bytes = 24 ∧ (Value.agg #[.int .u8 0, .int .u32 0, .string ⟨#[]⟩]).cells.size = 3 := ⟨_, rfl, rfl, rfl, rfl, rfl⟩
  refine wpList_append_own _ rfl (.tmp a') (.tmp c') 175 rfl base 178 i0 _ 3 24 Tryz.underlying175 hi hz hz1 hz2 hz3 (by omega) v n xs ?_ (hown.alloc _) ⟨w.heap.size, 0, none⟩ 1 1 [.int .u8 l1, .int .u32 k1, .string s1] ?_ rfl ?_ (by simp [Value.oneCell']) (by unfold maxLen; omega) (by omega) (by simp; omega) ?_
  · rw [← A3a]; exact Array.getD_eq_getD_getElem?
  · rw [← A3c]; exact Array.getD_eq_getD_getElem?
  · exact World.news_of_block (cs := #[.int .u8 l1, .int .u32 k1, .string s1]) (t := 178) (fr := (0, 0)) (heap_alloc_new w _)
  intro v' w' hown' hgr _
  generalize hA4 : A3.put _ v' = A4
  have hA4 : A3.put (some d') v' = A4 := hA4
  have sA4 : A4.tmps.size = top := by rw [← hA4, sz, sA3]
  have dA4 : A4.defers = a.defers := by rw [← hA4]; simp [Act.put, dA3]
  have A4d : A4.tmps[d']?.getD undef = v' := by rw [← hA4, g _ _ _ _ (by omega), if_pos rfl]
  refine wpList_plain rfl fun K hK => op_value (v := v') (by simp [execOp, go_sem, A4d]) (hK _ _ (wpList_nil ?_))
  clear hK K
  refine hQ _ _ v' (by rw [← sA4]; exact sz 1 _ _) (by rw [← dA4]; simp [Act.put]) ?_ hown' ?_
  · rw [Array.getD_eq_getD_getElem?, g 1 _ _ _ (by omega), if_pos rfl]
  · refine ((Below.refl base w).alloc hbase _).grown hgr (by simp; omega) (fun k hk => (hown.lt k hk).1)

/-- The rows of such appends, and the answer behind them. -/
def nmRows (top : Nat) : Nat → Code → Option (List (Int × Int × ByteArray))
  | 0, _ => none
  | fuel + 1, c => match c with
    | .seq (.region _ ops false) rest =>
      match nmRow top ops.toList with
      | some x => (match nmRows top fuel rest with | some l => some (x :: l) | none => none)
      | none => (match ops.toList, rest with
        | [⟨some m, .move (.tmp 1), _, _, _, none⟩, ⟨some 0, .assign (.tmp m'), _, _, _, none⟩], .ret => if m' = m ∧ 2 ≤ m ∧ m < top then some [] else none
        | _, _ => none)
    | _ => none

theorem wp_nmRows {top base : Nat} {Q : Exit → Act → World → Prop} : ∀ (fuel : Nat) (c : Code) (l : List (Int × Int × ByteArray)) (a : Act) (w : World) (v : Value) (n : Nat) (xs : List Value), nmRows top fuel c = some l → a.tmps.size = top → a.tmps.getD 1 undef = v → w.ownsRow base 178 3 v n xs → n + l.length ≤ 1000 → base ≤ w.heap.size →
    (∀ a' w' v', a'.tmps.size = top → a'.defers = a.defers → a'.tmps.getD 0 undef = v' → w'.ownsRow base 178 3 v' (n + l.length) (xs ++ l.flatMap nmCells) → Below base w w' → Q .ret a' w') → c.wp Tryz.prog Q a w := by
  intro fuel
  induction fuel with
  | zero => intro c l a w v n xs h; cases h
  | succ fuel ih =>
    intro c l a w v n xs h hs h1 hown hn hbase hQ
    rw [nmRows.eq_def] at h
    dsimp only at h
    split at h
    case h_2 => cases h
    rename_i id ops rest
    split at h
    · rename_i x hx
      split at h
      case h_2 => cases h
      rename_i l' hl'
      cases h
      simp only [List.length_cons] at hn
      refine wp_seq (wp_nmRow hx hs h1 hown (by omega) hbase (fun a' w' v' s' d' h1' hown' hb' => ?_))
      refine ih rest l' a' w' v' (n + 1) _ hl' s' h1' hown' (by omega) (Nat.le_trans hbase hb'.size) (fun a2 w2 v2 s2 d2 h2 hown2 hb2 => hQ a2 w2 v2 s2 (d2.trans d') h2 ?_ (hb'.trans hb2))
      rw [show n + (x :: l').length = n + 1 + l'.length by simp only [List.length_cons]; omega, List.flatMap_cons, ← List.append_assoc]
      exact hown2
    · split at h
      case h_2 => cases h
      rename_i m y1 y2 y3 m' y4 y5 y6 hops
      split at h
      case isFalse => cases h
      rename_i hm
      cases h
      obtain ⟨rfl, hm2, hm3⟩ := hm
      have hm3 : @LT.lt Nat _ m' top := hm3
      have hm2 : @LE.le Nat _ 2 m' := hm2
      refine wp_seq (wp_region_list ?_)
      rw [hops]
      have e1 : a.tmps[1]?.getD undef = v := by rw [← Array.getD_eq_getD_getElem?]; exact h1
      refine wpList_plain rfl fun K hK => op_value (v := v) (by simp [execOp, go_sem, e1]) (hK _ _ ?_)
      clear hK K
      generalize hA1 : a.put (some m') v = A1
      have sA1 : A1.tmps.size = top := by rw [← hA1]; simp [Act.put, hs]
      have dA1 : A1.defers = a.defers := by rw [← hA1]; simp [Act.put]
      have A1m : A1.tmps[m']?.getD undef = v := by rw [← hA1, ← Array.getD_eq_getD_getElem?, getD_put, if_pos ⟨rfl, by omega⟩]
      refine wpList_plain rfl fun K hK => op_value (v := v) (by simp [execOp, go_sem, A1m]) (hK _ _ (wpList_nil (wp_ret ?_)))
      clear hK K
      refine hQ _ w v (by simp [Act.put, sA1]) (by simp [Act.put, dA1]) ?_ (by simpa using hown) (Below.refl _ _)
      exact (getD_put A1 0 0 v).trans (if_pos ⟨rfl, by omega⟩)

set_option maxRecDepth 10000 in
theorem names_any (w : World) : Calls Tryz.prog 118 #[] w fun e w' => ∃ v, e = .returned v ∧ w'.ownsRow w.heap.size 178 3 v namesT.length (namesT.flatMap nmCells) ∧ Below w.heap.size w w' := by
  refine calls_of_wp Tryz.func118 rfl ?_
  generalize ha : ({ tmps := #[] ++ Array.replicate (Tryz.f118.ntmps - (#[] : Array Value).size) undef, defers := [] } : Act) = a
  have hsz : a.tmps.size = Tryz.f118.ntmps := by rw [← ha]; simp
  have had : a.defers = [] := by rw [← ha]
  clear ha
  refine wp_seq (wp_region_lit ?_)
  refine wpList_plain rfl fun K hK => op_value (v := .slice none 0 0) (by simp [execOp, go_sem]) (hK _ _ (wpList_nil ?_))
  clear hK K
  refine wp_seq (wp_region_lit ?_)
  refine wpList_plain rfl fun K hK => op_value (v := .slice none 0 0) (by simp [execOp, go_sem]) (hK _ _ (wpList_nil ?_))
  clear hK K
  generalize hA : (a.put (some 0) (.slice none 0 0)).put (some 1) (.slice none 0 0) = A
  have sA : A.tmps.size = Tryz.f118.ntmps := by rw [← hA]; simp [Act.put, hsz]
  have dA : A.defers = [] := by rw [← hA]; simp [Act.put, had]
  have A1 : A.tmps.getD 1 undef = .slice none 0 0 := by rw [← hA]; exact (getD_put _ 1 1 _).trans (if_pos ⟨rfl, by simp [Act.put, hsz]⟩)
  refine wp_nmRows (base := w.heap.size) 100 _ namesT A w _ 0 [] (by kernel_rfl) sA A1 (World.ownsRow_nil _ _ _ _) (by decide +kernel) (Nat.le_refl _) (fun a' w' v' s' d' h0 hown hb => ?_)
  rw [Nat.zero_add, List.nil_append] at hown
  exact ⟨d'.trans dA, v', by rw [results_tmp rfl, h0], v', rfl, hown, hb⟩

end Go.Proofs.YtonhnflilfjkbaaGreatDoor

/-
  What Kind, Enum and EnumNamed of the document's answer return, and Kind of the layer grammar, for every argument.
-/
namespace Go.Proofs.YtonhnflilfjkbaaGreatDoor
open Go.RowKit
set_option maxRecDepth 10000
set_option linter.unusedVariables false
set_option linter.unusedSimpArgs false

/-- The enumerant at a place of the list. -/
def nmN (k : Nat) : Int × Int × ByteArray := namesT.getD k (0, 0, ⟨#[]⟩)

theorem flat_at : ∀ (l : List (Int × Int × ByteArray)) (k j : Nat), k < l.length → j < 3 → (l.flatMap nmCells)[k * 3 + j]? = (nmCells (l.getD k (0, 0, ⟨#[]⟩)))[j]?
  | [], k, j, h, _ => by simp at h
  | x :: l, 0, j, h, hj => by
    rw [List.flatMap_cons, List.getElem?_append_left (by simp [nmCells]; omega)]; simp
  | x :: l, k + 1, j, h, hj => by
    rw [List.flatMap_cons, List.getElem?_append_right (by simp [nmCells]; omega)]
    have e : (k + 1) * 3 + j - (nmCells x).length = k * 3 + j := by simp [nmCells]; omega
    rw [e, flat_at l k j (by simpa using h) hj]
    simp

/-- The list of names, as it can be read. -/
def NamesV (W : World) (v : Value) : Prop := ∃ g cap, v = .slice (some ⟨g, 0, none⟩) 30 cap ∧ ∀ k, k < 30 → W.cell? ⟨g, k * 3, none⟩ = some (.int .u8 (nmN k).1) ∧ W.cell? ⟨g, k * 3 + 1, none⟩ = some (.int .u32 (nmN k).2.1) ∧ W.cell? ⟨g, k * 3 + 2, none⟩ = some (.string (nmN k).2.2)

theorem namesV_of {W : World} {B : Nat} {v : Value} (h : W.ownsRow B 178 3 v namesT.length (namesT.flatMap nmCells)) : NamesV W v := by
  have hl : namesT.length = 30 := by decide +kernel
  have hc := fun g hg => h.cells (g := g) hg
  rcases h.2 with ⟨_, h0⟩ | ⟨g, cap, cur, rfl, _, _, _, _, _, _⟩
  · rw [hl] at h0; omega
  · refine ⟨g, cap, by rw [hl], fun k hk => ?_⟩
    have hk' : k < namesT.length := by omega
    have q : ∀ j, j < 3 → ∀ u, (nmCells (nmN k))[j]? = some u → W.cell? ⟨g, k * 3 + j, none⟩ = some u := fun j hj u hu => by
      have := hc g rfl (k * 3 + j) u (by rw [flat_at _ _ _ hk' hj]; exact hu)
      rw [Addr.add_lit, Nat.zero_add] at this
      exact this
    exact ⟨q 0 (by omega) _ rfl, q 1 (by omega) _ rfl, q 2 (by omega) _ rfl⟩

theorem findK_at {p : Int × Int × ByteArray → Bool} : ∀ (l : List (Int × Int × ByteArray)) (k : Nat), k < l.length → (∀ j, j < k → p (l.getD j (0, 0, ⟨#[]⟩)) = false) → p (l.getD k (0, 0, ⟨#[]⟩)) = true → l.find? p = some (l.getD k (0, 0, ⟨#[]⟩))
  | [], k, h, _, _ => by simp at h
  | x :: l, 0, _, _, h => by
    have h' : p x = true := by simpa using h
    simp [List.find?_cons, h']
  | x :: l, k + 1, hk, h0, h => by
    have h' : p x = false := by simpa using h0 0 (by omega)
    rw [List.find?_cons, h']
    have := findK_at l k (by simpa using hk) (fun j hj => by simpa using h0 (j + 1) (by omega)) (by simpa using h)
    simpa using this
theorem findK_not {p : Int × Int × ByteArray → Bool} : ∀ (l : List (Int × Int × ByteArray)), (∀ j, j < l.length → p (l.getD j (0, 0, ⟨#[]⟩)) = false) → l.find? p = none
  | [], _ => rfl
  | x :: l, h0 => by
    have h' : p x = false := by simpa using h0 0 (by simp)
    rw [List.find?_cons, h']
    exact findK_not l (fun j hj => by simpa using h0 (j + 1) (by simpa using hj))

def isLet (c : Int) (x : Int × Int × ByteArray) : Bool := x.1 == c
def isNum (c n : Int) (x : Int × Int × ByteArray) : Bool := (x.1 == c) && (x.2.1 == n)
def isNam (c : Int) (s : ByteArray) (x : Int × Int × ByteArray) : Bool := (x.1 == c) && (x.2.2.toList == s.toList)

/-- The kind of a letter. -/
def kindI (c : Int) : Int := if c = 105 then 1 else if c = 110 then 2 else if c = 115 then 3 else if (namesT.find? (isLet c)).isSome then 4 else 0
/-- The name of a number. -/
def enumS (c n : Int) : ByteArray := match namesT.find? (isNum c n) with | some x => x.2.2 | none => ⟨#[]⟩
def enumB (c n : Int) : Bool := (namesT.find? (isNum c n)).isSome
/-- The number of a name. -/
def enumN (c : Int) (s : ByteArray) : Int := match namesT.find? (isNam c s) with | some x => x.2.1 | none => 0
def enumNB (c : Int) (s : ByteArray) : Bool := (namesT.find? (isNam c s)).isSome

theorem names_view (w : World) : Calls Tryz.prog 118 #[] w fun e w' => ∃ v, e = .returned v ∧ NamesV w' v ∧ Below w.heap.size w w' := by
  refine (names_any w).mono ?_
  rintro e w' ⟨v, rfl, h, hb⟩
  exact ⟨v, rfl, namesV_of h, hb⟩

set_option maxHeartbeats 1000000 in
theorem refKind_any (c : Int) (w : World) : Calls Tryz.prog 108 #[.int .u8 c] w fun e w' => e = .returned (.int .u8 (kindI c)) ∧ Below w.heap.size w w' := by
  by_cases h1 : c = 105
  · subst h1
    go_enter Tryz.func108, Tryz.ntmps108
    go_wp2
    go_ret
    exact ⟨rfl, Below.refl _ _⟩
  · have h1' : (c == 105) = false := by simpa using h1
    by_cases h2 : c = 110
    · subst h2
      go_enter Tryz.func108, Tryz.ntmps108
      go_wp2
      go_ret
      exact ⟨rfl, Below.refl _ _⟩
    · have h2' : (c == 110) = false := by simpa using h2
      by_cases h3 : c = 115
      · subst h3
        go_enter Tryz.func108, Tryz.ntmps108
        go_wp2
        go_ret
        exact ⟨rfl, Below.refl _ _⟩
      · have h3' : (c == 115) = false := by simpa using h3
        have HK : Hid (kindI c = if (namesT.find? (isLet c)).isSome then 4 else 0) := by show _ = _; unfold kindI; rw [if_neg h1, if_neg h2, if_neg h3]
        have HN : Hid (namesT.length = 30) := by show _ = _; decide +kernel
        clear h1 h2 h3
        go_enter Tryz.func108, Tryz.ntmps108
        go_wp2_with fail
        refine (names_view _).mono ?_
        rintro e w1 ⟨v, rfl, ⟨g, cap, rfl, hc⟩, hb⟩
        have HC : Hid (∀ k, k < 30 → _) := fun k (hk : k < 30) => (hc k hk).1
        clear hc
        go_wp2
        go_loop [4] (fun i => ∃ k : Nat, k ≤ 30 ∧ i = .int .i64 k ∧ ∀ j, j < k → isLet c (nmN j) = false) (fun i => 30 - (intOf i).toNat)
        case atStart => exact ⟨0, by omega, rfl, fun j hj => by omega⟩
        case round =>
          obtain ⟨k, hk, rfl, hno⟩ := hrel
          have HO : Hid (∀ j, j < k → isLet c (nmN j) = false) := hno
          clear hno
          by_cases hlt : k < 30
          · have hcell := HC.out k hlt
            by_cases hit : (nmN k).1 = c
            · have HF : Hid (namesT.find? (isLet c) = some (nmN k)) := findK_at namesT k (by rw [HN.out]; exact hlt) HO.out (by show isLet c (nmN k) = true; simp [isLet, hit])
              rw [hit] at hcell
              clear hit
              go_wp2
              try rw [Exit.noGoto_ret]
              go_ret
              exact ⟨by rw [HK.out, HF.out]; rfl, hb⟩
            · have hit' : ((nmN k).1 == c) = false := by simpa using hit
              have HS : Hid (∀ j, j < k + 1 → isLet c (nmN j) = false) := fun j hj => by
                by_cases e : j = k
                · subst e; exact hit'
                · exact HO.out j (by omega)
              generalize (nmN k).1 = y at hcell hit'
              clear hit
              go_wp2
              go_round
              case rel => exact ⟨k + 1, by omega, by go_num, HS.out⟩
              case measure => simp [intOf]; omega
          · have HF : Hid (namesT.find? (isLet c) = none) := findK_not namesT (fun j hj => HO.out j (by rw [HN.out] at hj; omega))
            obtain rfl : k = 30 := by omega
            go_wp2
            go_ret
            exact ⟨by rw [HK.out, HF.out]; rfl, hb⟩

set_option maxHeartbeats 1000000 in
theorem refEnum_any (c n : Int) (w : World) : Calls Tryz.prog 79 #[.int .u8 c, .int .u32 n] w fun e w' => e = .returned (.tuple #[.string (enumS c n), .bool (enumB c n)]) ∧ Below w.heap.size w w' := by
  have HN : Hid (namesT.length = 30) := by show _ = _; decide +kernel
  go_enter Tryz.func79, Tryz.ntmps79
  go_wp2_with fail
  refine (names_view _).mono ?_
  rintro e w1 ⟨v, rfl, ⟨g, cap, rfl, hc⟩, hb⟩
  have HC : Hid (∀ k, k < 30 → _) := fun k (hk : k < 30) => hc k hk
  clear hc
  go_wp2
  go_loop [4, 5, 7] (fun r b i => r = .string ⟨#[]⟩ ∧ b = .bool false ∧ ∃ k : Nat, k ≤ 30 ∧ i = .int .i64 k ∧ ∀ j, j < k → isNum c n (nmN j) = false) (fun _ _ i => 30 - (intOf i).toNat)
  case atStart => exact ⟨rfl, rfl, 0, by omega, rfl, fun j hj => by omega⟩
  case round =>
    obtain ⟨rfl, rfl, k, hk, rfl, hno⟩ := hrel
    have HO : Hid (∀ j, j < k → isNum c n (nmN j) = false) := hno
    clear hno
    by_cases hlt : k < 30
    · obtain ⟨c0, c1, c2⟩ := HC.out k hlt
      have HF : Hid (isNum c n (nmN k) = true → namesT.find? (isNum c n) = some (nmN k)) := fun h => findK_at namesT k (by rw [HN.out]; exact hlt) HO.out h
      have HS : Hid (isNum c n (nmN k) = false → ∀ j, j < k + 1 → isNum c n (nmN j) = false) := fun h j hj => by
        by_cases e : j = k
        · subst e; exact h
        · exact HO.out j (by omega)
      generalize nmN k = x at *
      obtain ⟨l, m, t⟩ := x
      simp only at c0 c1 c2
      by_cases h1 : l = c
      · subst h1
        by_cases h2 : m = n
        · subst h2
          have hf := HF.out (by simp [isNum])
          have HG : Hid (namesT.find? (isNum l m) = some (l, m, t)) := hf
          clear hf HF HS HO
          go_wp2
          try rw [Exit.noGoto_ret]
          go_ret2
          exact ⟨by simp only [enumS, enumB, HG.out]; rfl, hb⟩
        · have h2' : (m == n) = false := by simpa using h2
          have hs := HS.out (by simp [isNum, h2'])
          have HG : Hid (∀ j, j < k + 1 → isNum l n (nmN j) = false) := hs
          clear hs HF HS HO h2
          go_wp2
          go_round
          case rel => exact ⟨rfl, rfl, k + 1, by omega, by go_num, HG.out⟩
          case measure => simp [intOf]; omega
      · have h1' : (l == c) = false := by simpa using h1
        have hs := HS.out (by simp [isNum, h1'])
        have HG : Hid (∀ j, j < k + 1 → isNum c n (nmN j) = false) := hs
        clear hs HF HS HO h1
        go_wp2
        go_round
        case rel => exact ⟨rfl, rfl, k + 1, by omega, by go_num, HG.out⟩
        case measure => simp [intOf]; omega
    · have HF : Hid (namesT.find? (isNum c n) = none) := findK_not namesT (fun j hj => HO.out j (by rw [HN.out] at hj; omega))
      obtain rfl : k = 30 := by omega
      go_wp2
      go_ret2
      exact ⟨by simp only [enumS, enumB, HF.out]; rfl, hb⟩

/-- A letter of the document's list is one that has a text, and the other way. -/
def lettersOk : Bool := (namesT.all fun x => enumT.any fun p => decide (p.1 = x.1)) && (enumT.all fun p => decide (p.2.size ≠ 0) && namesT.any fun x => decide (x.1 = p.1)) && oneEach enumT
theorem letters_ok : lettersOk = true := by decide +kernel
theorem enum_text (c : Int) : ((namesT.find? (isLet c)).isSome = true → (lookT enumT c).size ≠ 0) ∧ ((namesT.find? (isLet c)).isSome = false → lookT enumT c = ⟨#[]⟩) := by
  have h := letters_ok
  simp only [lettersOk, Bool.and_eq_true] at h
  obtain ⟨⟨h1, h2⟩, h3⟩ := h
  constructor
  · intro hs
    obtain ⟨x, hx⟩ := Option.isSome_iff_exists.1 hs
    have hm := List.mem_of_find?_eq_some hx
    have hc : x.1 = c := by have := List.find?_some hx; simpa [isLet] using this
    obtain ⟨p, hp, e⟩ := List.any_eq_true.1 (List.all_eq_true.1 h1 x hm)
    have e := of_decide_eq_true e
    have := List.all_eq_true.1 h2 p hp
    simp only [Bool.and_eq_true, decide_eq_true_eq] at this
    rw [lookT_mem h3 c p.2 (by rw [← hc, ← e]; exact hp)]
    exact this.1
  · intro hs
    refine lookT_none fun k s hm e => ?_
    have := List.all_eq_true.1 h2 (k, s) hm
    simp only [Bool.and_eq_true] at this
    obtain ⟨x, hx, e2⟩ := List.any_eq_true.1 this.2
    have e2 := of_decide_eq_true e2
    have : (namesT.find? (isLet c)).isSome = true := by
      rw [List.find?_isSome]
      exact ⟨x, hx, by simp [isLet, e2, e]⟩
    rw [this] at hs; cases hs

set_option maxHeartbeats 1000000 in
theorem kind_any (c : Int) (w : World) : Calls Tryz.prog 126 #[.int .u8 c] w fun e w' => e = .returned (.int .u8 (kindI c)) ∧ w = w' := by
  by_cases h1 : c = 105
  · subst h1
    go_enter Tryz.func126, Tryz.ntmps126
    go_wp2
    go_ret
    exact ⟨rfl, rfl⟩
  · have h1' : (c == 105) = false := by simpa using h1
    by_cases h2 : c = 110
    · subst h2
      go_enter Tryz.func126, Tryz.ntmps126
      go_wp2
      go_ret
      exact ⟨rfl, rfl⟩
    · have h2' : (c == 110) = false := by simpa using h2
      by_cases h3 : c = 115
      · subst h3
        go_enter Tryz.func126, Tryz.ntmps126
        go_wp2
        go_ret
        exact ⟨rfl, rfl⟩
      · have h3' : (c == 115) = false := by simpa using h3
        have HK : Hid (kindI c = if (namesT.find? (isLet c)).isSome then 4 else 0) := by show _ = _; unfold kindI; rw [if_neg h1, if_neg h2, if_neg h3]
        obtain ⟨t1, t2⟩ := enum_text c
        have hT := fun w => enumText_any c w
        clear h1 h2 h3
        cases hb : (namesT.find? (isLet c)).isSome
        · rw [t2 hb] at hT
          rw [hb] at HK
          clear t1 t2 hb
          go_enter Tryz.func126, Tryz.ntmps126
          go_wp2_with (go_at_call 151; refine (hT _).mono ?_; rintro e w' ⟨rfl, rfl⟩)
          go_ret
          exact ⟨by rw [HK.out]; rfl, rfl⟩
        · have e := bytes_empty _ (t1 hb)
          rw [hb] at HK
          clear t1 t2 hb
          generalize lookT enumT c = s at *
          go_enter Tryz.func126, Tryz.ntmps126
          go_wp2_with (go_at_call 151; refine (hT _).mono ?_; rintro e w' ⟨rfl, rfl⟩)
          go_ret
          exact ⟨by rw [HK.out]; rfl, rfl⟩

end Go.Proofs.YtonhnflilfjkbaaGreatDoor

/-
  What Fits of the layer grammar returns, for every operation and every list of kinds.
-/
namespace Go.Proofs.YtonhnflilfjkbaaGreatDoor
open Go.RowKit
set_option maxRecDepth 10000
set_option linter.unusedVariables false
set_option linter.unusedSimpArgs false

/-- The kind at a place is not that of its argument's letter. -/
def badK (f : Frm) (zs : List Int) (k : Nat) : Bool := (letterI f k == 0) || !(kindI (letterI f k) == nth zs k)
/-- So many arguments are Fixed and whole rows of Rest. -/
def wholeB (f : Frm) (n : Int) : Bool := decide (n - f.2.2.2.1.size = 0) || (decide (0 < n - f.2.2.2.1.size) && decide ((n - f.2.2.2.1.size) % f.2.2.2.2.1.size = 0))
/-- What Fits answers. -/
def fitsI (is : Bool) (f : Frm) (zs : List Int) : Int × Bool :=
  if is = false then (0, false) else match (List.range zs.length).find? (badK f zs) with
    | some k => ((k : Int), false)
    | none => if wholeB f zs.length then (0, true) else (zs.length, false)

theorem range_find {p : Nat → Bool} (n k : Nat) (hk : k < n) (h0 : ∀ j, j < k → p j = false) (h : p k = true) : (List.range n).find? p = some k := by
  rw [List.find?_range_eq_some]
  exact ⟨h, by simpa using hk, fun j hj => by simpa using h0 j hj⟩
theorem range_not {p : Nat → Bool} (n : Nat) (h0 : ∀ j, j < n → p j = false) : (List.range n).find? p = none := by
  rw [List.find?_range_eq_none]
  exact fun j hj => by simpa using h0 j hj

/-- Behind Fixed a letter wants a row. -/
theorem rest_of_letters {f : Frm} {zs : List Int} (h : ∀ j, j < zs.length → badK f zs j = false) (hl : f.2.2.2.1.size < zs.length) : f.2.2.2.2.1.size ≠ 0 := fun e => by
  have := h f.2.2.2.1.size hl
  have hz : letterI f (f.2.2.2.1.size : Nat) = 0 := by
    unfold letterI mayB
    rw [if_neg (by omega), if_neg (by omega), if_pos e]; rfl
  simp [badK, hz] at this

theorem whole_any (B : Nat) (n : Int) (f : Frm) (m : Nat) (w : World) (h : w.heap[B]? = some (.cells (frmCells n f) 136 (0, 0))) (hm : (m : Int) < 9223372036854775808) (hs : shortF f = true) (hr : f.2.2.2.1.size < m → f.2.2.2.2.1.size ≠ 0) :
    Calls Tryz.prog 154 #[.pointer (some ⟨B, 0, none⟩), .int .i64 m] w fun e w' => e = .returned (.bool (wholeB f m)) ∧ w = w' := by
  obtain ⟨d0, d1, d2, d3, d4, d5, d6, d7, df⟩ := frm_cells h
  obtain ⟨nm, t, r, fx, rs, mo, pa⟩ := f
  simp only [shortF, Bool.and_eq_true, decide_eq_true_eq] at hs
  obtain ⟨⟨⟨s1, s2⟩, s3⟩, s4⟩ := hs
  simp only at *
  clear h d0 d1 d2 d3 d6 d7 df s3 s4
  have hw1 : IntKind.i64.wrap ((m : Int) - (fx.size : Int)) = (m : Int) - (fx.size : Int) := wrapI _ (by omega) (by omega)
  have HW : Hid (wholeB (nm, t, r, fx, rs, mo, pa) m = (decide ((m : Int) - fx.size = 0) || (decide (0 < (m : Int) - fx.size) && decide (((m : Int) - fx.size) % rs.size = 0)))) := rfl
  by_cases h0 : (m : Int) - (fx.size : Int) = 0
  · have HE : Hid (wholeB (nm, t, r, fx, rs, mo, pa) m = true) := by show _ = _; rw [HW.out, decide_eq_true h0]; rfl
    have hw2 : IntKind.i64.wrap ((m : Int) - (fx.size : Int)) = 0 := by rw [hw1, h0]
    clear hw1 h0 hr HW hm
    go_enter Tryz.func154, Tryz.ntmps154
    go_wp2
    go_ret
    exact ⟨by rw [HE.out]; rfl, rfl⟩
  · obtain ⟨b, hb⟩ : ∃ b : Int, (m : Int) - (fx.size : Int) = b := ⟨_, rfl⟩
    have hwb : IntKind.i64.wrap ((m : Int) - (fx.size : Int)) = b := hw1.trans hb
    have hw3 : wrap64 ((m : Int) - (fx.size : Int)) = b := by unfold wrap64; omega
    clear hw1
    rw [hb] at h0
    have hb0 : (b == 0) = false := by simpa using h0
    by_cases hp : 0 < b
    · have hz : rs.size ≠ 0 := hr (by omega)
      have hz' : ¬ (rs.size : Int) = 0 := by omega
      have tm : Int.tmod b (rs.size : Int) = b % (rs.size : Int) := Int.tmod_eq_emod_of_nonneg (by omega)
      have m0 : 0 ≤ b % (rs.size : Int) := Int.emod_nonneg _ hz'
      have m1 : b % (rs.size : Int) < (rs.size : Int) := Int.emod_lt_of_pos _ (by omega)
      have hw2 : IntKind.i64.wrap (b % (rs.size : Int)) = b % (rs.size : Int) := wrapI _ (by omega) (by omega)
      have HE : Hid (wholeB (nm, t, r, fx, rs, mo, pa) m = (b % (rs.size : Int) == 0)) := by
        show _ = _
        rw [HW.out, hb, decide_eq_false h0, decide_eq_true hp, Bool.false_or, Bool.true_and]
        rfl
      have hp' : decide (b > 0) = true := decide_eq_true hp
      generalize b % (rs.size : Int) = y at *
      clear hr HW hb h0 hz hm m0 m1
      go_enter Tryz.func154, Tryz.ntmps154
      go_wp2
      go_ret
      exact ⟨by rw [HE.out]; rfl, rfl⟩
    · have HE : Hid (wholeB (nm, t, r, fx, rs, mo, pa) m = false) := by
        show _ = _
        rw [HW.out, hb, decide_eq_false h0, decide_eq_false hp]; rfl
      have hp' : decide (b > 0) = false := decide_eq_false hp
      clear hr HW hb h0 hm hp
      go_enter Tryz.func154, Tryz.ntmps154
      go_wp2
      go_ret
      exact ⟨by rw [HE.out]; rfl, rfl⟩

set_option maxRecDepth 10000 in
set_option maxHeartbeats 2000000 in
theorem fits_any (n : Int) (a : Option Addr) (m cap : Nat) (zs : List Int) (w : World) (hv : View .u8 w a zs) (hl : zs.length = m) (hm : m ≤ 140737488351232) :
    Calls Tryz.prog 128 #[.int .u16 n, .slice a m cap] w fun e w' => e = .returned (.tuple #[.int .i64 (fitsI (lookF refT n).2 (lookF refT n).1 zs).1, .bool (fitsI (lookF refT n).2 (lookF refT n).1 zs).2]) ∧ Below w.heap.size w w' := by
  obtain ⟨_, _, _, h4, h5⟩ := ftxt_ok n
  have HL : Hid (zs.length = m) := hl
  clear hl
  cases h : (lookF refT n).2
  · have hT := fun w => formText_any n w
    rw [h5 h] at hT
    clear h4 h5 h hv hm HL
    go_enter Tryz.func128, Tryz.ntmps128
    go_wp2_with (go_at_call 80; refine (hT _).mono ?_; rintro e w' ⟨rfl, rfl⟩)
    go_ret2
    exact ⟨rfl, Below.refl _ _⟩
  · have e := bytes_empty _ (h4 h)
    have hT := fun w => formText_any n w
    have hR := fun w => readForm_op n w
    have hs := look_short n
    clear h4 h5 h
    generalize ftxt n = s at *
    generalize (lookF refT n).1 = f at *
    have HL0 : Hid (∀ B (i : Int) w, _ → _ → _) := fun B (i : Int) w h h1 => letter_any B n f i w h h1 hs
    have HW0 : Hid (∀ B w, _ → _ → _ → _) := fun B w h h1 h2 => whole_any B n f m w h h1 hs h2
    have HF : Hid (∀ x, x = fitsI true f zs → x = match (List.range zs.length).find? (badK f zs) with | some k => ((k : Int), false) | none => if wholeB f zs.length then (0, true) else ((zs.length : Int), false)) := fun x hx => by rw [hx]; rfl
    clear hs
    go_enter Tryz.func128, Tryz.ntmps128
    go_wp2_with fail
    refine (hT _).mono ?_
    rintro e w1 ⟨rfl, rfl⟩
    clear hT
    go_wp2_with fail
    refine (hR _).mono ?_
    rintro e w1 ⟨rfl, hb⟩
    clear hR e
    have hbel : Below w.heap.size w (w1.alloc (.cells (frmCells n f) 136)) := hb.alloc hb.size _
    have hblk := alloc_new w1 (frmCells n f) 136
    unfold formV
    go_wp2_with fail
    rw [show (w1.alloc (.cells #[.int .u16 n, .string f.1, .bool f.2.1, .bool f.2.2.1, .string f.2.2.2.1, .string f.2.2.2.2.1, .int .i64 f.2.2.2.2.2.1, .int .u8 f.2.2.2.2.2.2] 136)) = w1.alloc (.cells (frmCells n f) 136) from rfl]
    have HV : Hid (∀ k, k < m → _) := fun k (hk : k < m) => (hv.below hbel) k (by rw [HL.out]; exact hk)
    have HB : Hid (Below w.heap.size w (w1.alloc (.cells (frmCells n f) 136))) := hbel
    have HK : Hid ((w1.alloc (.cells (frmCells n f) 136)).heap[w1.heap.size]? = some (.cells (frmCells n f) 136 (0, 0))) := hblk
    generalize w1.alloc (.cells (frmCells n f) 136) = W at *
    clear hbel hblk hb hv
    go_loopw [4, 5, 20] (fun r b i wr => r = .int .i64 0 ∧ b = .bool false ∧ ∃ k q : Nat, k ≤ m ∧ i = .int .i64 k ∧ wr = W.drewN q ∧ ∀ j, j < k → badK f zs j = false) (fun _ _ i _ => m - (intOf i).toNat)
    case atStart => exact ⟨rfl, rfl, 0, 0, Nat.zero_le _, rfl, rfl, fun j hj => by omega⟩
    case round =>
      obtain ⟨rfl, rfl, k, q, hk, rfl, rfl, hno⟩ := hrel
      have HO : Hid (∀ j, j < k → badK f zs j = false) := hno
      clear hno
      by_cases hlt : k < m
      · obtain ⟨b, off, rfl, _, hcell⟩ := HV.out k hlt
        have hcell : (W.drewN q).cell? ⟨b, off + k, none⟩ = some (.int .u8 (nth zs k)) := hcell
        have hLt := HL0.out w1.heap.size k (W.drewN q) HK.out (by omega)
        have HBK : Hid (badK f zs k = ((letterI f k == 0) || !(kindI (letterI f k) == nth zs k))) := rfl
        have HHIT : Hid (badK f zs k = true → fitsI true f zs = ((k : Int), false)) := fun hb => by
          have e := range_find zs.length k (by rw [HL.out]; exact hlt) HO.out hb
          show (match (List.range zs.length).find? (badK f zs) with | some k => ((k : Int), false) | none => _) = _
          rw [e]
        have HS : Hid (badK f zs k = false → ∀ j, j < k + 1 → badK f zs j = false) := fun hb j hj => by
          by_cases e : j = k
          · subst e; exact hb
          · exact HO.out j (by omega)
        have hKd := fun w => kind_any (letterI f k) w
        generalize letterI f k = x at *
        generalize kindI x = y at *
        generalize nth zs k = z at *
        clear HO HV
        go_wp2_with fail
        refine hLt.mono ?_
        rintro e w' ⟨rfl, q', rfl⟩
        rw [World.drewN_drewN]
        clear hLt
        by_cases hx : x = 0
        · subst hx
          have HE : Hid (fitsI true f zs = ((k : Int), false)) := HHIT.out (by rw [HBK.out]; rfl)
          clear HHIT HS HBK
          go_wp2
          try rw [Exit.noGoto_ret]
          go_ret2
          exact ⟨by rw [HE.out]; rfl, bel_drewN HB.out _⟩
        · have hx' : (x == 0) = false := by simpa using hx
          by_cases hy : y = z
          · subst hy
            have HE : Hid (∀ j, j < k + 1 → badK f zs j = false) := HS.out (by rw [HBK.out, hx']; simp)
            clear HHIT HS HBK hx
            go_wp2_with (go_at_call 126; refine (hKd _).mono ?_; rintro e w' ⟨rfl, rfl⟩)
            go_roundw
            case rel => exact ⟨rfl, rfl, k + 1, _, by omega, by go_num, rfl, HE.out⟩
            case measure => simp [intOf]; omega
          · have hy' : (y == z) = false := by simpa using hy
            have HE : Hid (fitsI true f zs = ((k : Int), false)) := HHIT.out (by rw [HBK.out, hx', hy']; rfl)
            clear HHIT HS HBK hx hy
            go_wp2_with (go_at_call 126; refine (hKd _).mono ?_; rintro e w' ⟨rfl, rfl⟩)
            try rw [Exit.noGoto_ret]
            go_ret2
            exact ⟨by rw [HE.out]; rfl, bel_drewN HB.out _⟩
      · obtain rfl : k = m := by omega
        have hno : ∀ j, j < zs.length → badK f zs j = false := fun j hj => HO.out j (by rw [HL.out] at hj; exact hj)
        have HF2 : Hid (fitsI true f zs = if wholeB f k then (0, true) else ((k : Int), false)) := by
          show (match (List.range zs.length).find? (badK f zs) with | some k => ((k : Int), false) | none => if wholeB f zs.length then (0, true) else ((zs.length : Int), false)) = _
          rw [range_not zs.length hno, HL.out]
        have hWh := HW0.out w1.heap.size (W.drewN q) HK.out (by omega) (fun h => rest_of_letters hno (by rw [HL.out]; exact h))
        clear hno HO HV HF
        generalize wholeB f k = y at *
        go_wp2_with fail
        refine hWh.mono ?_
        rintro e w' ⟨rfl, rfl⟩
        clear hWh
        cases y
        · go_wp2
          go_ret2
          exact ⟨by rw [HF2.out]; rfl, bel_drewN HB.out _⟩
        · go_wp2
          go_ret2
          exact ⟨by rw [HF2.out]; rfl, bel_drewN HB.out _⟩

end Go.Proofs.YtonhnflilfjkbaaGreatDoor

/-
  Boxes of one cell, and what lies below, over worlds that grow: small lemmas for loops over functions. No condition but what each names.
-/
namespace Go.Proofs.YtonhnflilfjkbaaGreatDoor
open Go.RowKit

theorem cellsStay {W W' : World} {row : Option Nat} {k B : Nat} {cs : Array Value} {t : TypeId} {fr : Nat × Nat} (h : W.heap[k]? = some (.cells cs t fr)) (hg : W.grownBy W' row) (hr : ∀ r, row = some r → B ≤ r ∧ ∃ o : Obj, W.heap[r]? = some o ∧ o.isCells = false) : W'.heap[k]? = some (.cells cs t fr) :=
  (hg.block k (Array.getElem?_eq_some_iff.1 h).1 (fun e => by
    obtain ⟨_, o, ho, hc⟩ := hr k e.symm
    rw [h] at ho; cases ho; cases hc)).trans h
theorem belowStay {n₀ : Nat} {w W W' : World} {row : Option Nat} {B : Nat} (h : Below n₀ w W) (hn : n₀ ≤ w.heap.size) (hB : n₀ ≤ B) (hg : W.grownBy W' row) (hr : ∀ r, row = some r → B ≤ r ∧ ∃ o : Obj, W.heap[r]? = some o ∧ o.isCells = false) : Below n₀ w W' :=
  h.grown hg (Nat.le_trans hn h.size) (fun k e => Nat.le_trans hB (hr k e).1)
theorem oneCell {w : World} {g T : Nat} {v : Value} (h : w.heap[g]? = some (.cells #[v] T (0, 0))) : w.cell? ⟨g, 0, none⟩ = some v ∧ w.frozen? ⟨g, 0, none⟩ = false := by
  constructor <;> simp [World.cell?, World.frozen?, h]
theorem oneSet {w : World} {g T : Nat} {v : Value} (h : w.heap[g]? = some (.cells #[v] T (0, 0))) (u : Value) : (w.setCell ⟨g, 0, none⟩ u).heap[g]? = some (.cells #[u] T (0, 0)) := by
  simp [World.setCell, Array.getElem?_modify, h]
theorem setFar {w : World} {g k : Nat} {o : Obj} (h : w.heap[k]? = some o) (hne : k ≠ g) (i : Nat) (u : Value) : (w.setCell ⟨g, i, none⟩ u).heap[k]? = some o := (Below.heap_setCell _ _ _ _ (by simpa using hne)).trans h
theorem allocAt (w : World) (o : Obj) (k : Nat) : (w.alloc o).heap[k]? = if k = w.heap.size then some o else w.heap[k]? := by
  show (w.heap.push o)[k]? = _
  rw [Array.getElem?_push]
theorem allocOld {w : World} {k : Nat} {x : Obj} (h : w.heap[k]? = some x) (o : Obj) : (w.alloc o).heap[k]? = some x := (Below.heap_alloc _ _ _ (Array.getElem?_eq_some_iff.1 h).1).trans h
theorem allocNew (w : World) (o : Obj) {n : Nat} (h : w.heap.size = n) : (w.alloc o).heap[n]? = some o := by rw [allocAt, if_pos h.symm]

end Go.Proofs.YtonhnflilfjkbaaGreatDoor

/-
  Enums of the layer grammar, and what its iterator tells: the numbers and names of a letter's enumerants, in order.
-/
namespace Go.Proofs.YtonhnflilfjkbaaGreatDoor
open Go.RowKit Go.Shelf Go.Lib
set_option maxRecDepth 10000
attribute [local go_sem] Oper.semAt_some
set_option linter.unusedVariables false
set_option linter.unusedSimpArgs false

/-- What has been read of a letter's text: the number, where the name begins, what has been told. -/
abbrev EtSt := Int × Int × List (Int × ByteArray)

def etStep (s : ByteArray) (k : Nat) (c : Int) (x : EtSt) : EtSt :=
  match x with
  | (num, nf, out) =>
    if c = 59 then (0, 0, out ++ [(num, s.extract nf.toNat k)])
    else if c = 58 then (num, k + 1, out)
    else if nf = 0 then (10 * num + (c - 48), nf, out)
    else (num, nf, out)
def etTo (s : ByteArray) : Nat → EtSt
  | 0 => (0, 0, [])
  | k + 1 => etStep s k (sgn s k) (etTo s k)

def etOk (k : Nat) (c : Int) (x : EtSt) : Bool :=
  decide (c < 128 ∧ 0 ≤ c ∧ 0 ≤ x.1 ∧ x.1 ≤ 1000 ∧ 0 ≤ x.2.1 ∧ x.2.1 ≤ k ∧ (x.2.1 = 0 → c ≠ 59 → c ≠ 58 → 48 ≤ c))
def goodE (s : ByteArray) : Bool := (List.range s.size).all fun k => etOk k (sgn s k) (etTo s k)
theorem goodE_at {s : ByteArray} (h : goodE s = true) {k : Nat} (hk : k < s.size) : etOk k (sgn s k) (etTo s k) = true := List.all_eq_true.1 h k (List.mem_range.2 hk)

theorem et_grows (s : ByteArray) (k : Nat) : (etTo s k).2.2 <+: (etTo s (k + 1)).2.2 := by
  rw [etTo]
  generalize etTo s k = x
  obtain ⟨num, nf, out⟩ := x
  unfold etStep
  dsimp only
  split
  · exact ⟨_, rfl⟩
  · split
    · exact List.prefix_refl _
    · split <;> exact List.prefix_refl _
theorem et_le (s : ByteArray) (k d : Nat) : (etTo s k).2.2 <+: (etTo s (k + d)).2.2 := by
  induction d with
  | zero => exact List.prefix_refl _
  | succ d ih => exact ih.trans (et_grows s (k + d))
theorem et_prefix (s : ByteArray) {k m : Nat} (h : k ≤ m) : (etTo s k).2.2 <+: (etTo s m).2.2 := by
  have := et_le s k (m - k)
  rwa [show k + (m - k) = m by omega] at this

/-- The enumerants of a letter. -/
def enumsL (c : Int) : List (Int × ByteArray) := (namesT.filter (isLet c)).map (·.2)

def enumRowOk (p : Int × ByteArray) : Bool := goodE p.2 && decide (p.2.size ≤ 1000) && decide ((etTo p.2 p.2.size).2.2 = enumsL p.1)
theorem enumRows_ok : enumT.all enumRowOk = true := by decide +kernel

theorem lookT_or : ∀ (l : List (Int × ByteArray)) (n : Int), (n, lookT l n) ∈ l ∨ (lookT l n = ⟨#[]⟩ ∧ ∀ k s, (k, s) ∈ l → n ≠ k)
  | [], n => .inr ⟨rfl, fun _ _ h => by cases h⟩
  | (k, s) :: l, n => by
    rw [lookT]
    split
    · rename_i e; subst e; exact .inl List.mem_cons_self
    · rename_i e
      rcases lookT_or l n with h | ⟨h, h2⟩
      · exact .inl (List.mem_cons_of_mem _ h)
      · refine .inr ⟨h, fun k' s' hm => ?_⟩
        rcases List.mem_cons.1 hm with e' | hm
        · cases e'; exact e
        · exact h2 k' s' hm

theorem etext_ok (c : Int) : goodE (lookT enumT c) = true ∧ (lookT enumT c).size ≤ 1000 ∧ (etTo (lookT enumT c) (lookT enumT c).size).2.2 = enumsL c := by
  rcases lookT_or enumT c with h | ⟨h, h2⟩
  · have := List.all_eq_true.1 enumRows_ok _ h
    simp only [enumRowOk, Bool.and_eq_true, decide_eq_true_eq] at this
    exact ⟨this.1.1, this.1.2, this.2⟩
  · rw [h]
    refine ⟨by decide +kernel, by decide, ?_⟩
    have e : namesT.filter (isLet c) = [] := by
      rw [List.filter_eq_nil_iff]
      intro x hx hc
      have h0 := letters_ok
      simp only [lettersOk, Bool.and_eq_true] at h0
      obtain ⟨p, hp, e⟩ := List.any_eq_true.1 (List.all_eq_true.1 h0.1.1 x hx)
      have e := of_decide_eq_true e
      have hc : x.1 = c := by simpa [isLet] using hc
      exact h2 p.1 p.2 hp (by rw [e, hc])
    unfold enumsL
    rw [e]; rfl

theorem enums_any (c : Int) (w : World) :
    Calls Tryz.prog 136 #[.int .u8 c] w fun e w' => e = .returned (.func (.func 157) #[] #[.pointer (some ⟨w.heap.size, 0, none⟩)]) ∧ w.alloc (.cells #[.int .u8 c] 5) = w' := by
  go_enter Tryz.func136, Tryz.ntmps136
  go_wp2
  go_ret
  exact ⟨rfl, rfl⟩

/-- What is told of an enumerant. -/
def enumV (x : Int × ByteArray) : Array Value := #[.int .u32 x.1, .string x.2]

theorem iterAt_put (w : World) (k : Nat) (s : ByteArray) (pos : Nat) : w.iterAt k s pos = w.putObj k (.stringIter s pos) := rfl

set_option maxRecDepth 100000 in
set_option maxHeartbeats 2000000 in
theorem enums_tells (c : Int) (n0 : Nat) (τ : TypeId → Prop) (w : World) (B : Nat) (hB : w.heap[B]? = some (.cells #[.int .u8 c] 5 (0, 0))) :
    Tells Tryz.prog 157 #[.pointer (some ⟨B, 0, none⟩)] enumV (fun pre x _ => pre ++ [x] <+: enumsL c) n0 τ (fun xs => xs = enumsL c) (fun pre => pre <+: enumsL c) w := by
  intro l J Jx W hW hJ hJx hY h0
  have hBW : W.heap[B]? = some (.cells #[.int .u8 c] 5 (0, 0)) := (hW.block B (Array.getElem?_eq_some_iff.1 hB).1).trans hB
  have hbx : W.cell? ⟨B, 0, none⟩ = some (.int .u8 c) := by simp [World.cell?, hBW]
  obtain ⟨hg, hs, hE⟩ := etext_ok c
  have hT := fun w => enumText_any c w
  generalize lookT enumT c = s at *
  have HG : Hid (goodE s = true) := hg
  have HE : Hid ((etTo s s.size).2.2 = enumsL c) := hE
  clear hg hE hB hW hBW
  refine callsIn_of_wp Tryz.func157 rfl trivial ?_ rfl
  simp only [Tryz.ntmps157, List.size_toArray, List.length_cons, List.length_nil, Nat.reduceAdd, Nat.reduceSub, Array.replicate_succ, Array.replicate_zero, List.push_toArray, List.append_toArray, List.nil_append, List.cons_append]
  gi_wp2_with fail
  refine ⟨trivial, rfl, (callsIn_wide.2 (hT _)).mono ?_⟩
  rintro e w' ⟨rfl, rfl⟩
  clear hT
  gi_wp2
  gi_loopw [4, 5] (fun a b wr => ∃ k : Nat, k ≤ s.size ∧ a = .int .u32 (etTo s k).1 ∧ b = .int .i64 (etTo s k).2.1 ∧ J (etTo s k).2.2 wr ∧ wr.heap[W.heap.size]? = some (.stringIter s k)) (fun _ _ wr => left W.heap.size s.size wr)
  case atStart => exact ⟨0, Nat.zero_le _, rfl, rfl, hJ.alloc _ h0, heap_alloc_new W _⟩
  case round =>
    obtain ⟨k, hk, rfl, rfl, hJs, hit⟩ := hrel
    clear h0 hbx
    have HL : Hid (left W.heap.size s.size wr = s.size - k) := left_at hit
    by_cases hlt : k < s.size
    · have hok := goodE_at HG.out hlt
      have HS : Hid (etTo s (k + 1) = etStep s k (sgn s k) (etTo s k)) := rfl
      have hsg := sgn_at s k hlt
      have HPX : Hid ((etTo s (k + 1)).2.2 <+: enumsL c) := by show _ <+: _; rw [← HE.out]; exact et_prefix s hlt
      generalize sgn s k = ch at *
      generalize hrd : etTo s k = x at *
      obtain ⟨num, nf, out⟩ := x
      simp only [etOk, decide_eq_true_eq] at hok
      obtain ⟨o1, o2, o3, o4, o5, o6, o7⟩ := hok
      have hnx := fun ty => run_next_ascii_at (P := Tryz.prog) _ _ s k ty hit hlt (by omega)
      rw [hsg] at hnx
      obtain ⟨W1, hW1⟩ : ∃ X, X = wr.iterAt W.heap.size s (k + 1) := ⟨_, rfl⟩
      rw [← hW1] at hnx
      have i1 : W1.heap[W.heap.size]? = some (.stringIter s (k + 1)) := by rw [hW1]; exact iterAt_heap _ _ _ _ _ hit
      have hJ1 : J out W1 := by rw [hW1, iterAt_put]; exact hJ.putObj _ hJs (Nat.le_refl _) hit rfl
      have HI : Hid (W1.heap[W.heap.size]? = some (.stringIter s (k + 1))) := i1
      have HJ1 : Hid (J out W1) := hJ1
      clear hW1 hit hJs hsg hrd i1 hJ1
      by_cases h59 : ch = 59
      · subst h59
        have HN : Hid (etTo s (k + 1) = (0, 0, out ++ [(num, s.extract nf.toNat k)])) := by show _ = _; rw [HS.out]; simp [etStep]
        have hpx := HPX.out
        rw [HN.out] at hpx
        obtain ⟨fn, tmps, assign, body, hy, hR⟩ := hY out (num, s.extract nf.toNat k) W1 HJ1.out hpx
        simp only [enumV] at hy
        clear HS hpx o7 HPX
        gi_wp2_with fail
        refine ⟨rfl, hR.mono ?_⟩
        rintro e W3 ⟨hkf, ⟨rfl, hJ3, hk3⟩ | ⟨rfl, hJx3⟩⟩
        · have HI3 : Hid (W3.heap[W.heap.size]? = some (.stringIter s (k + 1))) := hkf.same _ _ (Nat.le_refl _) HI.out rfl
          have HJ3 : Hid (J (out ++ [(num, s.extract nf.toNat k)]) W3) := hJ3
          clear hy hR hY hkf hk3 hJ3
          gi_wp2
          go_roundw
          case rel => exact ⟨k + 1, by omega, by rw [HN.out], by rw [HN.out], by rw [HN.out]; exact HJ3.out, HI3.out⟩
          case measure => rw [HL.out, left_at HI3.out]; omega
        · have hp : out ++ [(num, s.extract nf.toNat k)] <+: enumsL c := by have := et_prefix s hlt; rw [HN.out] at this; rw [← HE.out]; exact this
          have HP : Hid (out ++ [(num, s.extract nf.toNat k)] <+: enumsL c) := hp
          clear hy hR hY hkf hp
          gi_wp2
          refine bodyPost_ret (results_none rfl _ _ _) rfl ?_
          exact ⟨⟨_, rfl⟩, .inr ⟨_, HP.out, hJx3⟩⟩
      · have h59' : (ch == 59) = false := by simpa using h59
        clear hY
        by_cases h58 : ch = 58
        · subst h58
          have HN : Hid (etTo s (k + 1) = (num, (k : Int) + 1, out)) := by show _ = _; rw [HS.out]; simp [etStep]
          clear HS o7 HPX h59
          gi_wp2
          go_roundw
          case rel => exact ⟨k + 1, by omega, by rw [HN.out], by rw [HN.out], by rw [HN.out]; exact HJ1.out, HI.out⟩
          case measure => rw [HL.out, left_at HI.out]; omega
        · have h58' : (ch == 58) = false := by simpa using h58
          by_cases hn : nf = 0
          · subst hn
            have hd := o7 rfl h59 h58
            have HN : Hid (etTo s (k + 1) = (10 * num + (ch - 48), 0, out)) := by show _ = _; rw [HS.out]; simp [etStep, h59, h58]
            clear HS o7 HPX h59 h58 o6 o5
            gi_wp2
            go_roundw
            case rel => exact ⟨k + 1, by omega, by rw [HN.out], by rw [HN.out], by rw [HN.out]; exact HJ1.out, HI.out⟩
            case measure => rw [HL.out, left_at HI.out]; omega
          · have hn' : (nf == 0) = false := by simpa using hn
            have HN : Hid (etTo s (k + 1) = (num, nf, out)) := by show _ = _; rw [HS.out]; simp [etStep, h59, h58, hn]
            clear HS o7 HPX h59 h58 hn
            gi_wp2
            go_roundw
            case rel => exact ⟨k + 1, by omega, by rw [HN.out], by rw [HN.out], by rw [HN.out]; exact HJ1.out, HI.out⟩
            case measure => rw [HL.out, left_at HI.out]; omega
    · have hnx := fun ty => run_next_end_at (P := Tryz.prog) _ _ s k ty hit hlt
      obtain rfl : k = s.size := by omega
      have hJe : J (enumsL c) wr := by rw [← HE.out]; exact hJs
      have HJe : Hid (J (enumsL c) wr) := hJe
      generalize etTo s s.size = x at *
      obtain ⟨num, nf, out⟩ := x
      clear hJs hJe hit hY
      gi_wp2
      go_end0
      exact ⟨⟨_, rfl⟩, .inl HJe.out⟩

end Go.Proofs.YtonhnflilfjkbaaGreatDoor
