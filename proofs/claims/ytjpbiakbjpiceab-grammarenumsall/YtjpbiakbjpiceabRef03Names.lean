/-
  What Names of the document's answer returns: a list of its own with all enumerants, in order.
-/
import Derived.WalkSpells
import Derived.WalkMore
import Derived.Laws.AppendOwn
import Derived.Deep.AppendLies
import Derived.Test.YtjpbiakbjpiceabRef03Of
namespace Go.Proofs.Ytjpbiakbjpiceab
open Go.RowKit
set_option maxRecDepth 10000
set_option linter.unusedVariables false
set_option linter.unusedSimpArgs false

/-- An enumerant as its cells. -/
def nmCells (x : Int × Int × ByteArray) : List Value := [.int .u8 x.1, .int .u32 x.2.1, .string x.2.2]

/-- 'l = append(l, Name{..})'. -/
def nmRow (top : Nat) : List Oper → Option (Int × Int × ByteArray)
  | [⟨some a, .move (.tmp 1), _, _, _, none⟩, ⟨some b, .build T ⟨[(0, .const (.int .u8 l)), (1, .const (.int .u32 k)), (2, .const (.string s))]⟩, _, _, _, none⟩, ⟨some c, .buildSlice S 1 ⟨[(0, .tmp b')]⟩, _, _, _, none⟩, ⟨some d, .call ⟨.builtin .append, ⟨[.tmp a', .tmp c']⟩, ⟨[S1, S2]⟩⟩, _, _, _, none⟩, ⟨some 1, .assign (.tmp d'), _, _, _, none⟩] =>
    if T = 26 ∧ S = 22 ∧ S1 = 22 ∧ S2 = 22 ∧ a' = a ∧ b' = b ∧ c' = c ∧ d' = d ∧ 2 ≤ a ∧ a < b ∧ b < c ∧ c < d ∧ d < top then some (l, k, s) else none
  | _ => none

theorem wp_nmRow {top : Nat} {ops : Array Oper} {x : Int × Int × ByteArray} (h : nmRow top ops.toList = some x) {id : Nat} {Q : Exit → Act → World → Prop} {a : Act} {w : World} (hs : a.tmps.size = top) {base : Nat} {v : Value} {n : Nat} {xs : List Value} (h1 : a.tmps.getD 1 undef = v)
    (hown : w.ownsRow base 26 3 v n xs) (hn : n ≤ 1000) (hbase : base ≤ w.heap.size)
    (hQ : ∀ a' w' v', a'.tmps.size = top → a'.defers = a.defers → a'.tmps.getD 1 undef = v' → w'.ownsRow base 26 3 v' (n + 1) (xs ++ nmCells x) → Below base w w' → Q .normal a' w') : (Code.region id ops false).wp Try.prog Q a w := by
  refine wp_region_list ?_
  generalize ops.toList = l at *
  unfold nmRow at h
  split at h
  case h_2 => cases h
  rename_i r1 y1 y2 y3 r2 T l1 k1 s1 y4 y5 y6 r3 S b' y7 y8 y9 r4 a' c' S1 S2 y10 y11 y12 d' y13 y14 y15
  split at h
  case isFalse => cases h
  rename_i hh
  obtain ⟨rfl, rfl, rfl, rfl, rfl, rfl, rfl, rfl, q1, q2, q3, q4, q5⟩ := hh
  cases h
  have q1 : (2 : Nat) ≤ a' := q1
  have q2 : @LT.lt Nat _ a' b' := q2
  have q3 : @LT.lt Nat _ b' c' := q3
  have q4 : @LT.lt Nat _ c' d' := q4
  have q5 : @LT.lt Nat _ d' top := q5
  have e1 : a.tmps[1]?.getD undef = v := by rw [← Array.getD_eq_getD_getElem?]; exact h1
  refine wpList_plain rfl fun K hK => op_value (v := v) (by simp [execOp, go_sem, e1]) (hK _ _ ?_)
  clear hK K
  have g : ∀ (t : Nat) (A : Act) (u : Value) (m : Nat), t < A.tmps.size → (A.put (some t) u).tmps[m]?.getD undef = if t = m then u else A.tmps[m]?.getD undef := fun t A u m ht => by
    rw [← Array.getD_eq_getD_getElem?, ← Array.getD_eq_getD_getElem?, getD_put]
    by_cases e : t = m
    · rw [if_pos ⟨e, by omega⟩, if_pos e]
    · rw [if_neg (fun h => e h.1), if_neg e]
  have sz : ∀ (t : Nat) (A : Act) (u : Value), (A.put (some t) u).tmps.size = A.tmps.size := fun t A u => by simp [Act.put]
  generalize hA1 : a.put (some a') v = A1
  have sA1 : A1.tmps.size = top := by rw [← hA1, sz, hs]
  have dA1 : A1.defers = a.defers := by rw [← hA1]; simp [Act.put]
  have A1a : A1.tmps[a']?.getD undef = v := by rw [← hA1, g _ _ _ _ (by omega), if_pos rfl]
  refine wpList_plain rfl fun K hK => op_value (v := .agg #[.int .u8 l1, .int .u32 k1, .string s1]) (by simp [execOp, go_sem]) (hK _ _ ?_)
  clear hK K
  generalize hA2 : A1.put (some b') _ = A2
  have sA2 : A2.tmps.size = top := by rw [← hA2, sz, sA1]
  have dA2 : A2.defers = a.defers := by rw [← hA2]; simp [Act.put, dA1]
  have A2a : A2.tmps[a']?.getD undef = v := by rw [← hA2, g _ _ _ _ (by omega), if_neg (by omega)]; exact A1a
  have A2b : A2.tmps[b']?.getD undef = .agg #[.int .u8 l1, .int .u32 k1, .string s1] := by rw [← hA2, g _ _ _ _ (by omega), if_pos rfl]
  refine wpList_plain rfl fun K hK => op_new (v := .slice (some ⟨w.heap.size, 0, none⟩) 1 1) (w' := w.alloc (.cells #[.int .u8 l1, .int .u32 k1, .string s1] 26)) (by simp [execOp, go_sem, A2b]) (hK _ _ ?_)
  clear hK K
  generalize hA3 : A2.put (some c') _ = A3
  have sA3 : A3.tmps.size = top := by rw [← hA3, sz, sA2]
  have dA3 : A3.defers = a.defers := by rw [← hA3]; simp [Act.put, dA2]
  have A3a : A3.tmps[a']?.getD undef = v := by rw [← hA3, g _ _ _ _ (by omega), if_neg (by omega)]; exact A2a
  have A3c : A3.tmps[c']?.getD undef = .slice (some ⟨w.heap.size, 0, none⟩) 1 1 := by rw [← hA3, g _ _ _ _ (by omega), if_pos rfl]
  obtain ⟨i0, hi, hz, hz1, hz2, hz3⟩ : ∃ i0, Try.prog.info? 26 = some i0 ∧ i0.zero = some (.agg #[.int .u8 0, .int .u32 0, .string ⟨#[]⟩]) ∧ i0.size = 3 ∧ i0.bytes = 24 ∧ (Value.agg #[.int .u8 0, .int .u32 0, .string ⟨#[]⟩]).cells.size = 3 := ⟨_, rfl, rfl, rfl, rfl, rfl⟩
  refine wpList_append_own _ rfl (.tmp a') (.tmp c') 22 rfl base 26 i0 _ 3 24 Try.underlying22 hi hz hz1 hz2 hz3 (by omega) v n xs ?_ (hown.alloc _) ⟨w.heap.size, 0, none⟩ 1 1 [.int .u8 l1, .int .u32 k1, .string s1] ?_ rfl ?_ (by simp [Value.oneCell']) (by unfold maxLen; omega) (by omega) (by simp; omega) ?_
  · rw [← A3a]; exact Array.getD_eq_getD_getElem?
  · rw [← A3c]; exact Array.getD_eq_getD_getElem?
  · exact World.news_of_block (cs := #[.int .u8 l1, .int .u32 k1, .string s1]) (t := 26) (fr := (0, 0)) (heap_alloc_new w _)
  intro v' w' hown' hgr _
  generalize hA4 : A3.put _ v' = A4
  have hA4 : A3.put (some d') v' = A4 := hA4
  have sA4 : A4.tmps.size = top := by rw [← hA4, sz, sA3]
  have dA4 : A4.defers = a.defers := by rw [← hA4]; simp [Act.put, dA3]
  have A4d : A4.tmps[d']?.getD undef = v' := by rw [← hA4, g _ _ _ _ (by omega), if_pos rfl]
  refine wpList_plain rfl fun K hK => op_value (v := v') (by simp [execOp, go_sem, A4d]) (hK _ _ (wpList_nil ?_))
  clear hK K
  refine hQ _ _ v' (by rw [← sA4]; exact sz 1 _ _) (by rw [← dA4]; simp [Act.put]) ?_ hown' ?_
  · rw [Array.getD_eq_getD_getElem?, g 1 _ _ _ (by omega), if_pos rfl]
  · refine ((Below.refl base w).alloc hbase _).grown hgr (by simp; omega) (fun k hk => (hown.lt k hk).1)

/-- The rows of such appends, and the answer behind them. -/
def nmRows (top : Nat) : Nat → Code → Option (List (Int × Int × ByteArray))
  | 0, _ => none
  | fuel + 1, c => match c with
    | .seq (.region _ ops false) rest =>
      match nmRow top ops.toList with
      | some x => (match nmRows top fuel rest with | some l => some (x :: l) | none => none)
      | none => (match ops.toList, rest with
        | [⟨some m, .move (.tmp 1), _, _, _, none⟩, ⟨some 0, .assign (.tmp m'), _, _, _, none⟩], .ret => if m' = m ∧ 2 ≤ m ∧ m < top then some [] else none
        | _, _ => none)
    | _ => none

theorem wp_nmRows {top base : Nat} {Q : Exit → Act → World → Prop} : ∀ (fuel : Nat) (c : Code) (l : List (Int × Int × ByteArray)) (a : Act) (w : World) (v : Value) (n : Nat) (xs : List Value), nmRows top fuel c = some l → a.tmps.size = top → a.tmps.getD 1 undef = v → w.ownsRow base 26 3 v n xs → n + l.length ≤ 1000 → base ≤ w.heap.size →
    (∀ a' w' v', a'.tmps.size = top → a'.defers = a.defers → a'.tmps.getD 0 undef = v' → w'.ownsRow base 26 3 v' (n + l.length) (xs ++ l.flatMap nmCells) → Below base w w' → Q .ret a' w') → c.wp Try.prog Q a w := by
  intro fuel
  induction fuel with
  | zero => intro c l a w v n xs h; cases h
  | succ fuel ih =>
    intro c l a w v n xs h hs h1 hown hn hbase hQ
    rw [nmRows.eq_def] at h
    dsimp only at h
    split at h
    case h_2 => cases h
    rename_i id ops rest
    split at h
    · rename_i x hx
      split at h
      case h_2 => cases h
      rename_i l' hl'
      cases h
      simp only [List.length_cons] at hn
      refine wp_seq (wp_nmRow hx hs h1 hown (by omega) hbase (fun a' w' v' s' d' h1' hown' hb' => ?_))
      refine ih rest l' a' w' v' (n + 1) _ hl' s' h1' hown' (by omega) (Nat.le_trans hbase hb'.size) (fun a2 w2 v2 s2 d2 h2 hown2 hb2 => hQ a2 w2 v2 s2 (d2.trans d') h2 ?_ (hb'.trans hb2))
      rw [show n + (x :: l').length = n + 1 + l'.length by simp only [List.length_cons]; omega, List.flatMap_cons, ← List.append_assoc]
      exact hown2
    · split at h
      case h_2 => cases h
      rename_i m y1 y2 y3 m' y4 y5 y6 hops
      split at h
      case isFalse => cases h
      rename_i hm
      cases h
      obtain ⟨rfl, hm2, hm3⟩ := hm
      have hm3 : @LT.lt Nat _ m' top := hm3
      have hm2 : @LE.le Nat _ 2 m' := hm2
      refine wp_seq (wp_region_list ?_)
      rw [hops]
      have e1 : a.tmps[1]?.getD undef = v := by rw [← Array.getD_eq_getD_getElem?]; exact h1
      refine wpList_plain rfl fun K hK => op_value (v := v) (by simp [execOp, go_sem, e1]) (hK _ _ ?_)
      clear hK K
      generalize hA1 : a.put (some m') v = A1
      have sA1 : A1.tmps.size = top := by rw [← hA1]; simp [Act.put, hs]
      have dA1 : A1.defers = a.defers := by rw [← hA1]; simp [Act.put]
      have A1m : A1.tmps[m']?.getD undef = v := by rw [← hA1, ← Array.getD_eq_getD_getElem?, getD_put, if_pos ⟨rfl, by omega⟩]
      refine wpList_plain rfl fun K hK => op_value (v := v) (by simp [execOp, go_sem, A1m]) (hK _ _ (wpList_nil (wp_ret ?_)))
      clear hK K
      refine hQ _ w v (by simp [Act.put, sA1]) (by simp [Act.put, dA1]) ?_ (by simpa using hown) (Below.refl _ _)
      exact (getD_put A1 0 0 v).trans (if_pos ⟨rfl, by omega⟩)

set_option maxRecDepth 10000 in
theorem names_any (w : World) : Calls Try.prog 7 #[] w fun e w' => ∃ v, e = .returned v ∧ w'.ownsRow w.heap.size 26 3 v namesT.length (namesT.flatMap nmCells) ∧ Below w.heap.size w w' := by
  refine calls_of_wp Try.func7 rfl ?_
  generalize ha : ({ tmps := #[] ++ Array.replicate (Try.f7.ntmps - (#[] : Array Value).size) undef, defers := [] } : Act) = a
  have hsz : a.tmps.size = Try.f7.ntmps := by rw [← ha]; simp
  have had : a.defers = [] := by rw [← ha]
  clear ha
  refine wp_seq (wp_region_lit ?_)
  refine wpList_plain rfl fun K hK => op_value (v := .slice none 0 0) (by simp [execOp, go_sem]) (hK _ _ (wpList_nil ?_))
  clear hK K
  refine wp_seq (wp_region_lit ?_)
  refine wpList_plain rfl fun K hK => op_value (v := .slice none 0 0) (by simp [execOp, go_sem]) (hK _ _ (wpList_nil ?_))
  clear hK K
  generalize hA : (a.put (some 0) (.slice none 0 0)).put (some 1) (.slice none 0 0) = A
  have sA : A.tmps.size = Try.f7.ntmps := by rw [← hA]; simp [Act.put, hsz]
  have dA : A.defers = [] := by rw [← hA]; simp [Act.put, had]
  have A1 : A.tmps.getD 1 undef = .slice none 0 0 := by rw [← hA]; exact (getD_put _ 1 1 _).trans (if_pos ⟨rfl, by simp [Act.put, hsz]⟩)
  refine wp_nmRows (base := w.heap.size) 100 _ namesT A w _ 0 [] (by kernel_rfl) sA A1 (World.ownsRow_nil _ _ _ _) (by decide +kernel) (Nat.le_refl _) (fun a' w' v' s' d' h0 hown hb => ?_)
  rw [Nat.zero_add, List.nil_append] at hown
  exact ⟨d'.trans dA, v', by rw [results_tmp rfl, h0], v', rfl, hown, hb⟩

end Go.Proofs.Ytjpbiakbjpiceab
