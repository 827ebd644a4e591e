/-
  A switch over whole numbers, read off the program's own code: its arms, and what it comes to; a function that is such a switch over texts. No condition but what each lemma names.
-/
import Derived.WalkKit
import Derived.Test.YtbhoimeneekdfaaMath
namespace Go.Proofs.Ytbhoimeneekdfaa
open Go.RowKit
set_option linter.unusedVariables false
set_option linter.unusedSimpArgs false

/-- The slots below lo stand as they stood. -/
def Agree (lo : Nat) (a a' : Act) : Prop := a'.tmps.size = a.tmps.size ∧ a'.defers = a.defers ∧ ∀ i, i < lo → a'.tmps.getD i undef = a.tmps.getD i undef
theorem Agree.refl (lo : Nat) (a : Act) : Agree lo a a := ⟨rfl, rfl, fun _ _ => rfl⟩
theorem Agree.trans {lo : Nat} {a b c : Act} (h : Agree lo a b) (k : Agree lo b c) : Agree lo a c := ⟨k.1.trans h.1, k.2.1.trans h.2.1, fun i hi => (k.2.2 i hi).trans (h.2.2 i hi)⟩
theorem getD_put (a : Act) (d i : Nat) (v : Value) : (a.put (some d) v).tmps.getD i undef = if d = i ∧ i < a.tmps.size then v else a.tmps.getD i undef := by
  simp only [Act.put, Array.getD_eq_getD_getElem?, Array.getElem?_setIfInBounds]
  split
  · rename_i h; subst h
    by_cases h : d < a.tmps.size <;> simp [h]
  · rename_i h; simp [h]
theorem Agree.put {lo : Nat} (a : Act) {d : Nat} (h : lo ≤ d) (v : Value) : Agree lo a (a.put (some d) v) :=
  ⟨by simp [Act.put], by simp [Act.put], fun i hi => by rw [getD_put, if_neg (by omega)]⟩

theorem op_value {P : Program} {o : Oper} {a : Act} {w : World} {K : Act → World → Prop} {Q : Exit → Act → World → Prop} {v : Value} (h : (execOp a.eval o).run P w = .ok (.value v) w) (hK : K (a.put o.dst v) w) : o.wp P a w K Q := by
  unfold Oper.wp; rw [h]; exact hK

/-- 'x == k' into t, then into b. -/
def testOf (x lo b : Nat) (kd : IntKind) : List Oper → Option Int
  | [⟨some t, .binOp .eql _ (.tmp x') (.const (.int kd' k)) _, _, _, _, none⟩, ⟨some b', .assign (.tmp t'), _, _, _, none⟩] =>
    if x' = x ∧ kd' = kd ∧ b' = b ∧ t' = t ∧ lo ≤ t ∧ lo ≤ b then some k else none
  | _ => none

theorem wp_test {P : Program} {Q : Exit → Act → World → Prop} {x lo b id : Nat} {kd : IntKind} {k n : Int} {ops : Array Oper} (h : testOf x lo b kd ops.toList = some k) {a : Act} {w : World}
    (hx : a.tmps.getD x undef = .int kd n) (hs : b < a.tmps.size)
    (hK : ∀ a', Agree lo a a' → a'.tmps.getD b undef = .bool (n == k) → Q .normal a' w) (hts : ∀ t o, ops.toList.head? = some o → o.dst = some t → t < a.tmps.size) : (Code.region id ops false).wp P Q a w := by
  refine wp_region_list ?_
  generalize hl : ops.toList = l at *
  unfold testOf at h
  split at h
  case h_2 => cases h
  rename_i t e1 x' kd' k' e2 e3 e4 e5 b' t' e6 e7 e8
  split at h
  case isFalse => cases h
  rename_i hh
  obtain ⟨rfl, rfl, rfl, rfl, h1, h2⟩ := hh
  cases h
  have ht : t' < a.tmps.size := hts t' _ rfl rfl
  refine wpList_plain rfl fun K hK1 => ?_
  have ev : a.tmps[x']?.getD undef = .int kd' n := by rw [← Array.getD_eq_getD_getElem?]; exact hx
  refine op_value (v := .bool (n == k)) (by simp [execOp, go_sem, ev]) ?_
  refine hK1 _ _ (wpList_plain rfl fun K2 hK2 => ?_)
  have ev2 : (a.put (some t') (.bool (n == k))).tmps[t']?.getD undef = .bool (n == k) := by
    rw [← Array.getD_eq_getD_getElem?, getD_put, if_pos ⟨rfl, ht⟩]
  generalize ha2 : a.put (some t') (.bool (n == k)) = a2 at *
  refine op_value (v := .bool (n == k)) (by simp [execOp, go_sem, ev2]) ?_
  subst ha2
  refine hK2 _ _ (hK _ ((Agree.put a h1 _).trans (Agree.put _ h2 _)) ?_)
  rw [getD_put, if_pos ⟨rfl, by simpa [Act.put] using hs⟩]

/-- The arms of a switch, in order. -/
def armsOf (x lo top : Nat) (kd : IntKind) : Nat → Code → Option (List (Int × Code))
  | 0, _ => none
  | fuel + 1, c =>
    match c with
    | .skip => some []
    | .seq (.region _ ops false) (.cond (.tmp b) arm rest) =>
      match testOf x lo b kd ops.toList, armsOf x lo top kd fuel rest with
      | some k, some l => if b < top ∧ (ops.toList.all fun o => match o.dst with | some t => decide (t < top) | none => true) = true then some ((k, arm) :: l) else none
      | _, _ => none
    | _ => none

theorem wp_arms {P : Program} {Q : Exit → Act → World → Prop} {x lo top : Nat} {kd : IntKind} {n : Int} (hlo : x < lo) :
    ∀ (fuel : Nat) (c : Code) (l : List (Int × Code)) (a : Act) (w : World), armsOf x lo top kd fuel c = some l → a.tmps.size = top → a.tmps.getD x undef = .int kd n →
      (∀ a' k d, Agree lo a a' → (k, d) ∈ l → n = k → d.wp P Q a' w) → (∀ a', Agree lo a a' → (∀ k d, (k, d) ∈ l → n ≠ k) → Q .normal a' w) → c.wp P Q a w := by
  intro fuel
  induction fuel with
  | zero => intro c l a w h; cases h
  | succ fuel ih =>
    intro c l a w h hs hx harm hno
    rw [armsOf.eq_def] at h
    dsimp only at h
    split at h
    · cases h
      exact wp_skip (hno a (Agree.refl _ _) (fun _ _ hm => by cases hm))
    · rename_i id ops b arm rest
      split at h
      case h_2 => cases h
      rename_i k l' hk hl'
      split at h
      case isFalse => cases h
      rename_i hb
      cases h
      refine wp_seq (wp_test (lo := lo) hk hx (by rw [hs]; exact hb.1) (fun a' hag hb' => ?_) (fun t o ho ht => ?_))
      · refine wp_cond_split (t := n == k) hb' (fun ht => ?_) (fun hf => ?_)
        · exact harm a' k arm hag List.mem_cons_self (by simpa using ht)
        · refine ih rest l' a' w hl' (hag.1.trans hs) ((hag.2.2 x hlo).trans hx) (fun a2 k2 d2 h2 hm e => harm a2 k2 d2 (hag.trans h2) (List.mem_cons_of_mem _ hm) e) (fun a2 h2 hn => hno a2 (hag.trans h2) (fun k2 d2 hm => ?_))
          rcases List.mem_cons.1 hm with e | hm
          · cases e; simpa using hf
          · exact hn k2 d2 hm
      · have hm : o ∈ ops.toList := List.mem_of_mem_head? ho
        have := List.all_eq_true.1 hb.2 o hm
        rw [ht] at this
        simp only [decide_eq_true_eq] at this
        rw [hs]; exact this
    · cases h

/-! ### a switch over texts -/

/-- The text that an arm answers. -/
def armText (r : Nat) : Code → Option ByteArray
  | .seq (.region _ ops false) .ret =>
    match ops.toList with
    | [⟨some r', .assign (.const (.string s)), _, _, _, none⟩] => if r' = r then some s else none
    | _ => none
  | _ => none
theorem wp_armText {P : Program} {Q : Exit → Act → World → Prop} {r : Nat} {c : Code} {s : ByteArray} (h : armText r c = some s) {a : Act} {w : World} (hQ : Q .ret (a.put (some r) (.string s)) w) : c.wp P Q a w := by
  unfold armText at h
  split at h
  case h_2 => cases h
  rename_i id ops
  split at h
  case h_2 => cases h
  rename_i r' s' e1 e2 e3 hl
  split at h
  case isFalse => cases h
  rename_i e
  subst e
  cases h
  refine wp_seq (wp_region_list ?_)
  rw [hl]
  refine wpList_plain rfl fun K hK => ?_
  refine op_value (v := .string s) (by simp [execOp, go_sem]) ?_
  exact hK _ _ (wpList_nil (wp_ret hQ))

/-- A list of arms, each a text. -/
def textsOf (r : Nat) : List (Int × Code) → Option (List (Int × ByteArray))
  | [] => some []
  | (k, c) :: l => match armText r c, textsOf r l with
    | some s, some t => some ((k, s) :: t)
    | _, _ => none
theorem textsOf_mem {r : Nat} : ∀ {l : List (Int × Code)} {t : List (Int × ByteArray)}, textsOf r l = some t → ∀ k c, (k, c) ∈ l → ∃ s, armText r c = some s ∧ (k, s) ∈ t
  | [], _, _, _, _, hm => by cases hm
  | (k', c') :: l, t, h, k, c, hm => by
    rw [textsOf] at h
    split at h
    case h_2 => cases h
    rename_i s t' h1 h2
    cases h
    rcases List.mem_cons.1 hm with e | hm
    · cases e; exact ⟨s, h1, List.mem_cons_self⟩
    · obtain ⟨s2, h3, h4⟩ := textsOf_mem h2 k c hm
      exact ⟨s2, h3, List.mem_cons_of_mem _ h4⟩
theorem textsOf_keys {r : Nat} : ∀ {l : List (Int × Code)} {t : List (Int × ByteArray)}, textsOf r l = some t → ∀ k s, (k, s) ∈ t → ∃ c, (k, c) ∈ l
  | [], _, h, _, _, hm => by rw [textsOf] at h; cases h; cases hm
  | (k', c') :: l, t, h, k, s, hm => by
    rw [textsOf] at h
    split at h
    case h_2 => cases h
    rename_i s' t' h1 h2
    cases h
    rcases List.mem_cons.1 hm with e | hm
    · cases e; exact ⟨c', List.mem_cons_self⟩
    · obtain ⟨c2, h3⟩ := textsOf_keys h2 k s hm
      exact ⟨c2, List.mem_cons_of_mem _ h3⟩

/-- A function's body that is such a switch. -/
def textSwitch (top : Nat) (kd : IntKind) : Code → Option (List (Int × ByteArray))
  | .seq (.region _ o0 false) (.seq (.seq (.region _ o1 false) (.block _ sw)) c) =>
    match o0.toList, o1.toList, armText 2 c with
    | [⟨some 2, .assign (.const (.string _)), _, _, _, none⟩], [⟨some 3, .move (.tmp 0), _, _, _, none⟩], some s =>
      if s.data = #[] then match armsOf 3 4 top kd 200 sw with
        | some l => textsOf 2 l
        | none => none
      else none
    | _, _, _ => none
  | _ => none

/-- The text of a number. -/
def lookT : List (Int × ByteArray) → Int → ByteArray
  | [], _ => ⟨#[]⟩
  | (k, s) :: l, n => if n = k then s else lookT l n
/-- No number has two texts. -/
def oneEach (l : List (Int × ByteArray)) : Bool := match l with
  | [] => true
  | (k, _) :: l => (l.all fun p => decide (p.1 ≠ k)) && oneEach l
theorem lookT_mem : ∀ {l : List (Int × ByteArray)}, oneEach l = true → ∀ k s, (k, s) ∈ l → lookT l k = s
  | [], _, _, _, h => by cases h
  | (k', s') :: l, h1, k, s, hm => by
    rw [oneEach, Bool.and_eq_true] at h1
    rcases List.mem_cons.1 hm with e | hm
    · cases e; simp [lookT]
    · have := List.all_eq_true.1 h1.1 (k, s) hm
      simp only [ne_eq, decide_not, Bool.not_eq_true', decide_eq_false_iff_not] at this
      rw [lookT, if_neg this]
      exact lookT_mem h1.2 k s hm
theorem lookT_none : ∀ {l : List (Int × ByteArray)} {n : Int}, (∀ k s, (k, s) ∈ l → n ≠ k) → lookT l n = ⟨#[]⟩
  | [], _, _ => rfl
  | (k', s') :: l, n, h => by
    rw [lookT, if_neg (h k' s' List.mem_cons_self)]
    exact lookT_none fun k s hm => h k s (List.mem_cons_of_mem _ hm)

theorem calls_textSwitch {P : Program} {f top : Nat} {fn : Func} {c : Code} {kd : IntKind} {t : List (Int × ByteArray)} (hf : P.funcs[f]? = some fn) (hb : fn.body = some c) (hn : fn.ntmps = top) (h4 : 4 ≤ top) (hr : fn.results = #[.tmp 2])
    (ht : textSwitch top kd c = some t) (h1 : oneEach t = true) (n : Int) (w : World) :
    Calls P f #[.int kd n] w fun e w' => e = .returned (.string (lookT t n)) ∧ w = w' := by
  refine calls_of_wp hf hb ?_
  unfold textSwitch at ht
  split at ht
  case h_2 => cases ht
  rename_i i0 o0 i1 o1 i2 sw cc
  split at ht
  case h_2 => cases ht
  rename_i s0 y1 y2 y3 z1 z2 z3 s e0 e1 e2
  split at ht
  case isFalse => cases ht
  rename_i hs
  split at ht
  case h_2 => cases ht
  rename_i l hl
  obtain ⟨sd⟩ := s
  simp only at hs
  subst hs
  generalize ha : ({ tmps := #[.int kd n] ++ Array.replicate (fn.ntmps - (#[Value.int kd n] : Array Value).size) undef, defers := [] } : Act) = a
  have hsz : a.tmps.size = top := by rw [← ha]; simp [hn]; omega
  have ha0 : a.tmps.getD 0 undef = .int kd n := by rw [← ha]; rw [Array.getD_eq_getD_getElem?, Array.getElem?_append_left (by simp)]; rfl
  have had : a.defers = [] := by rw [← ha]
  clear ha
  refine wp_seq (wp_region_list ?_)
  rw [e0]
  refine wpList_plain rfl fun K hK => ?_
  refine op_value (v := .string s0) (by simp [execOp, go_sem]) ?_
  refine hK _ _ (wpList_nil ?_)
  refine wp_seq (wp_seq (wp_region_list ?_))
  rw [e1]
  refine wpList_plain rfl fun K2 hK2 => ?_
  have ev : (a.put (some 2) (.string s0)).tmps[0]?.getD undef = .int kd n := by
    rw [← Array.getD_eq_getD_getElem?, getD_put, if_neg (by omega), ha0]
  generalize ha2 : a.put (some 2) (.string s0) = a2 at *
  refine op_value (v := .int kd n) (by simp [execOp, go_sem, ev]) ?_
  subst ha2
  refine hK2 _ _ (wpList_nil (wp_block ?_))
  generalize hA : (a.put (some 2) (.string s0)).put (some 3) (.int kd n) = A
  have hAs : A.tmps.size = top := by rw [← hA]; simp [Act.put, hsz]
  have hAx : A.tmps.getD 3 undef = .int kd n := by rw [← hA, getD_put, if_pos ⟨rfl, by simp [Act.put, hsz]; omega⟩]
  have hAd : A.defers = [] := by rw [← hA]; simp [Act.put, had]
  clear hA
  have fin : ∀ (A' : Act) (s : ByteArray), Agree 4 A A' → lookT t n = s → bodyPost P fn (fun e w' => e = .returned (.string (lookT t n)) ∧ w = w') .ret (A'.put (some 2) (.string s)) w := fun A' s hag e =>
    ⟨by simp [Act.put, hag.2.1, hAd], .string s, by rw [results_tmp hr, getD_put, if_pos ⟨rfl, by rw [hag.1, hAs]; omega⟩], by rw [e], rfl⟩
  refine wp_arms (x := 3) (lo := 4) (n := n) (by omega) 200 sw l A w hl hAs hAx (fun A' k d hag hm e => ?_) (fun A' hag hno => ?_)
  · obtain ⟨s, h3, h5⟩ := textsOf_mem ht k d hm
    exact wp_armText h3 (fin A' s hag (by rw [e]; exact lookT_mem h1 k s h5))
  · exact wp_armText e2 (fin A' _ hag (lookT_none fun k s hm => by obtain ⟨c, hc⟩ := textsOf_keys ht k s hm; exact hno k c hc))

end Go.Proofs.Ytbhoimeneekdfaa
