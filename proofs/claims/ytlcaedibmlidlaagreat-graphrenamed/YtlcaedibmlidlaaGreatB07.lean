/-
  Texts laid together in one: Switch, MathG, Ref03Form, Ref03Of, GrammarTexts, GrammarReadForm, GrammarOf, GrammarLetter, Ref03Names, Ref03Kind.
-/
import Derived.WalkKit
import Derived.Test.YtlcaedibmlidlaaGreatB01
import Derived.Test.YtlcaedibmlidlaaGreatB06
import Derived.WalkSpells
import Derived.Test.YtlcaedibmlidlaaGreatProg
import Derived.WalkMore
import Derived.Lib.OthersKept
import Derived.Deep.QuietTactic
import Derived.BigQuiet
import Derived.Laws.AppendOwn
import Derived.Deep.AppendLies
/-
  A switch over whole numbers, read off the program's own code: its arms, and what it comes to; a function that is such a switch over texts. No condition but what each lemma names.
-/
namespace Go.Proofs.YtlcaedibmlidlaaGreat
open Go.RowKit
set_option linter.unusedVariables false
set_option linter.unusedSimpArgs false

/-- The slots below lo stand as they stood. -/
def Agree (lo : Nat) (a a' : Act) : Prop := a'.tmps.size = a.tmps.size ∧ a'.defers = a.defers ∧ ∀ i, i < lo → a'.tmps.getD i undef = a.tmps.getD i undef
theorem Agree.refl (lo : Nat) (a : Act) : Agree lo a a := ⟨rfl, rfl, fun _ _ => rfl⟩
theorem Agree.trans {lo : Nat} {a b c : Act} (h : Agree lo a b) (k : Agree lo b c) : Agree lo a c := ⟨k.1.trans h.1, k.2.1.trans h.2.1, fun i hi => (k.2.2 i hi).trans (h.2.2 i hi)⟩
theorem getD_put (a : Act) (d i : Nat) (v : Value) : (a.put (some d) v).tmps.getD i undef = if d = i ∧ i < a.tmps.size then v else a.tmps.getD i undef := by
  simp only [Act.put, Array.getD_eq_getD_getElem?, Array.getElem?_setIfInBounds]
  split
  · rename_i h; subst h
    by_cases h : d < a.tmps.size <;> simp [h]
  · rename_i h; simp [h]
theorem Agree.put {lo : Nat} (a : Act) {d : Nat} (h : lo ≤ d) (v : Value) : Agree lo a (a.put (some d) v) :=
  ⟨by simp [Act.put], by simp [Act.put], fun i hi => by rw [getD_put, if_neg (by omega)]⟩

theorem op_value {P : Program} {o : Oper} {a : Act} {w : World} {K : Act → World → Prop} {Q : Exit → Act → World → Prop} {v : Value} (h : (execOp a.eval o).run P w = .ok (.value v) w) (hK : K (a.put o.dst v) w) : o.wp P a w K Q := by
  unfold Oper.wp; rw [h]; exact hK

/-- 'x == k' into t, then into b. -/
def testOf (x lo b : Nat) (kd : IntKind) : List Oper → Option Int
  | [⟨some t, .binOp .eql _ (.tmp x') (.const (.int kd' k)) _, _, _, _, none⟩, ⟨some b', .assign (.tmp t'), _, _, _, none⟩] =>
    if x' = x ∧ kd' = kd ∧ b' = b ∧ t' = t ∧ lo ≤ t ∧ lo ≤ b then some k else none
  | _ => none

theorem wp_test {P : Program} {Q : Exit → Act → World → Prop} {x lo b id : Nat} {kd : IntKind} {k n : Int} {ops : Array Oper} (h : testOf x lo b kd ops.toList = some k) {a : Act} {w : World}
    (hx : a.tmps.getD x undef = .int kd n) (hs : b < a.tmps.size)
    (hK : ∀ a', Agree lo a a' → a'.tmps.getD b undef = .bool (n == k) → Q .normal a' w) (hts : ∀ t o, ops.toList.head? = some o → o.dst = some t → t < a.tmps.size) : (Code.region id ops false).wp P Q a w := by
  refine wp_region_list ?_
  generalize hl : ops.toList = l at *
  unfold testOf at h
  split at h
  case h_2 => cases h
  rename_i t e1 x' kd' k' e2 e3 e4 e5 b' t' e6 e7 e8
  split at h
  case isFalse => cases h
  rename_i hh
  obtain ⟨rfl, rfl, rfl, rfl, h1, h2⟩ := hh
  cases h
  have ht : t' < a.tmps.size := hts t' _ rfl rfl
  refine wpList_plain rfl fun K hK1 => ?_
  have ev : a.tmps[x']?.getD undef = .int kd' n := by rw [← Array.getD_eq_getD_getElem?]; exact hx
  refine op_value (v := .bool (n == k)) (by simp [execOp, go_sem, ev]) ?_
  refine hK1 _ _ (wpList_plain rfl fun K2 hK2 => ?_)
  have ev2 : (a.put (some t') (.bool (n == k))).tmps[t']?.getD undef = .bool (n == k) := by
    rw [← Array.getD_eq_getD_getElem?, getD_put, if_pos ⟨rfl, ht⟩]
  generalize ha2 : a.put (some t') (.bool (n == k)) = a2 at *
  refine op_value (v := .bool (n == k)) (by simp [execOp, go_sem, ev2]) ?_
  subst ha2
  refine hK2 _ _ (hK _ ((Agree.put a h1 _).trans (Agree.put _ h2 _)) ?_)
  rw [getD_put, if_pos ⟨rfl, by simpa [Act.put] using hs⟩]

/-- The arms of a switch, in order. -/
def armsOf (x lo top : Nat) (kd : IntKind) : Nat → Code → Option (List (Int × Code))
  | 0, _ => none
  | fuel + 1, c =>
    match c with
    | .skip => some []
    | .seq (.region _ ops false) (.cond (.tmp b) arm rest) =>
      match testOf x lo b kd ops.toList, armsOf x lo top kd fuel rest with
      | some k, some l => if b < top ∧ (ops.toList.all fun o => match o.dst with | some t => decide (t < top) | none => true) = true then some ((k, arm) :: l) else none
      | _, _ => none
    | _ => none

theorem wp_arms {P : Program} {Q : Exit → Act → World → Prop} {x lo top : Nat} {kd : IntKind} {n : Int} (hlo : x < lo) :
    ∀ (fuel : Nat) (c : Code) (l : List (Int × Code)) (a : Act) (w : World), armsOf x lo top kd fuel c = some l → a.tmps.size = top → a.tmps.getD x undef = .int kd n →
      (∀ a' k d, Agree lo a a' → (k, d) ∈ l → n = k → d.wp P Q a' w) → (∀ a', Agree lo a a' → (∀ k d, (k, d) ∈ l → n ≠ k) → Q .normal a' w) → c.wp P Q a w := by
  intro fuel
  induction fuel with
  | zero => intro c l a w h; cases h
  | succ fuel ih =>
    intro c l a w h hs hx harm hno
    rw [armsOf.eq_def] at h
    dsimp only at h
    split at h
    · cases h
      exact wp_skip (hno a (Agree.refl _ _) (fun _ _ hm => by cases hm))
    · rename_i id ops b arm rest
      split at h
      case h_2 => cases h
      rename_i k l' hk hl'
      split at h
      case isFalse => cases h
      rename_i hb
      cases h
      refine wp_seq (wp_test (lo := lo) hk hx (by rw [hs]; exact hb.1) (fun a' hag hb' => ?_) (fun t o ho ht => ?_))
      · refine wp_cond_split (t := n == k) hb' (fun ht => ?_) (fun hf => ?_)
        · exact harm a' k arm hag List.mem_cons_self (by simpa using ht)
        · refine ih rest l' a' w hl' (hag.1.trans hs) ((hag.2.2 x hlo).trans hx) (fun a2 k2 d2 h2 hm e => harm a2 k2 d2 (hag.trans h2) (List.mem_cons_of_mem _ hm) e) (fun a2 h2 hn => hno a2 (hag.trans h2) (fun k2 d2 hm => ?_))
          rcases List.mem_cons.1 hm with e | hm
          · cases e; simpa using hf
          · exact hn k2 d2 hm
      · have hm : o ∈ ops.toList := List.mem_of_mem_head? ho
        have := List.all_eq_true.1 hb.2 o hm
        rw [ht] at this
        simp only [decide_eq_true_eq] at this
        rw [hs]; exact this
    · cases h

/-! ### a switch over texts -/

/-- The text that an arm answers. -/
def armText (r : Nat) : Code → Option ByteArray
  | .seq (.region _ ops false) .ret =>
    match ops.toList with
    | [⟨some r', .assign (.const (.string s)), _, _, _, none⟩] => if r' = r then some s else none
    | _ => none
  | _ => none
theorem wp_armText {P : Program} {Q : Exit → Act → World → Prop} {r : Nat} {c : Code} {s : ByteArray} (h : armText r c = some s) {a : Act} {w : World} (hQ : Q .ret (a.put (some r) (.string s)) w) : c.wp P Q a w := by
  unfold armText at h
  split at h
  case h_2 => cases h
  rename_i id ops
  split at h
  case h_2 => cases h
  rename_i r' s' e1 e2 e3 hl
  split at h
  case isFalse => cases h
  rename_i e
  subst e
  cases h
  refine wp_seq (wp_region_list ?_)
  rw [hl]
  refine wpList_plain rfl fun K hK => ?_
  refine op_value (v := .string s) (by simp [execOp, go_sem]) ?_
  exact hK _ _ (wpList_nil (wp_ret hQ))

/-- A list of arms, each a text. -/
def textsOf (r : Nat) : List (Int × Code) → Option (List (Int × ByteArray))
  | [] => some []
  | (k, c) :: l => match armText r c, textsOf r l with
    | some s, some t => some ((k, s) :: t)
    | _, _ => none
theorem textsOf_mem {r : Nat} : ∀ {l : List (Int × Code)} {t : List (Int × ByteArray)}, textsOf r l = some t → ∀ k c, (k, c) ∈ l → ∃ s, armText r c = some s ∧ (k, s) ∈ t
  | [], _, _, _, _, hm => by cases hm
  | (k', c') :: l, t, h, k, c, hm => by
    rw [textsOf] at h
    split at h
    case h_2 => cases h
    rename_i s t' h1 h2
    cases h
    rcases List.mem_cons.1 hm with e | hm
    · cases e; exact ⟨s, h1, List.mem_cons_self⟩
    · obtain ⟨s2, h3, h4⟩ := textsOf_mem h2 k c hm
      exact ⟨s2, h3, List.mem_cons_of_mem _ h4⟩
theorem textsOf_keys {r : Nat} : ∀ {l : List (Int × Code)} {t : List (Int × ByteArray)}, textsOf r l = some t → ∀ k s, (k, s) ∈ t → ∃ c, (k, c) ∈ l
  | [], _, h, _, _, hm => by rw [textsOf] at h; cases h; cases hm
  | (k', c') :: l, t, h, k, s, hm => by
    rw [textsOf] at h
    split at h
    case h_2 => cases h
    rename_i s' t' h1 h2
    cases h
    rcases List.mem_cons.1 hm with e | hm
    · cases e; exact ⟨c', List.mem_cons_self⟩
    · obtain ⟨c2, h3⟩ := textsOf_keys h2 k s hm
      exact ⟨c2, List.mem_cons_of_mem _ h3⟩

/-- A function's body that is such a switch. -/
def textSwitch (top : Nat) (kd : IntKind) : Code → Option (List (Int × ByteArray))
  | .seq (.region _ o0 false) (.seq (.seq (.region _ o1 false) (.block _ sw)) c) =>
    match o0.toList, o1.toList, armText 2 c with
    | [⟨some 2, .assign (.const (.string _)), _, _, _, none⟩], [⟨some 3, .move (.tmp 0), _, _, _, none⟩], some s =>
      if s.data = #[] then match armsOf 3 4 top kd 200 sw with
        | some l => textsOf 2 l
        | none => none
      else none
    | _, _, _ => none
  | _ => none

/-- The text of a number. -/
def lookT : List (Int × ByteArray) → Int → ByteArray
  | [], _ => ⟨#[]⟩
  | (k, s) :: l, n => if n = k then s else lookT l n
/-- No number has two texts. -/
def oneEach (l : List (Int × ByteArray)) : Bool := match l with
  | [] => true
  | (k, _) :: l => (l.all fun p => decide (p.1 ≠ k)) && oneEach l
theorem lookT_mem : ∀ {l : List (Int × ByteArray)}, oneEach l = true → ∀ k s, (k, s) ∈ l → lookT l k = s
  | [], _, _, _, h => by cases h
  | (k', s') :: l, h1, k, s, hm => by
    rw [oneEach, Bool.and_eq_true] at h1
    rcases List.mem_cons.1 hm with e | hm
    · cases e; simp [lookT]
    · have := List.all_eq_true.1 h1.1 (k, s) hm
      simp only [ne_eq, decide_not, Bool.not_eq_true', decide_eq_false_iff_not] at this
      rw [lookT, if_neg this]
      exact lookT_mem h1.2 k s hm
theorem lookT_none : ∀ {l : List (Int × ByteArray)} {n : Int}, (∀ k s, (k, s) ∈ l → n ≠ k) → lookT l n = ⟨#[]⟩
  | [], _, _ => rfl
  | (k', s') :: l, n, h => by
    rw [lookT, if_neg (h k' s' List.mem_cons_self)]
    exact lookT_none fun k s hm => h k s (List.mem_cons_of_mem _ hm)

theorem calls_textSwitch {P : Program} {f top : Nat} {fn : Func} {c : Code} {kd : IntKind} {t : List (Int × ByteArray)} (hf : P.funcs[f]? = some fn) (hb : fn.body = some c) (hn : fn.ntmps = top) (h4 : 4 ≤ top) (hr : fn.results = #[.tmp 2])
    (ht : textSwitch top kd c = some t) (h1 : oneEach t = true) (n : Int) (w : World) :
    Calls P f #[.int kd n] w fun e w' => e = .returned (.string (lookT t n)) ∧ w = w' := by
  refine calls_of_wp hf hb ?_
  unfold textSwitch at ht
  split at ht
  case h_2 => cases ht
  rename_i i0 o0 i1 o1 i2 sw cc
  split at ht
  case h_2 => cases ht
  rename_i s0 y1 y2 y3 z1 z2 z3 s e0 e1 e2
  split at ht
  case isFalse => cases ht
  rename_i hs
  split at ht
  case h_2 => cases ht
  rename_i l hl
  obtain ⟨sd⟩ := s
  simp only at hs
  subst hs
  generalize ha : ({ tmps := #[.int kd n] ++ Array.replicate (fn.ntmps - (#[Value.int kd n] : Array Value).size) undef, defers := [] } : Act) = a
  have hsz : a.tmps.size = top := by rw [← ha]; simp [hn]; omega
  have ha0 : a.tmps.getD 0 undef = .int kd n := by rw [← ha]; rw [Array.getD_eq_getD_getElem?, Array.getElem?_append_left (by simp)]; rfl
  have had : a.defers = [] := by rw [← ha]
  clear ha
  refine wp_seq (wp_region_list ?_)
  rw [e0]
  refine wpList_plain rfl fun K hK => ?_
  refine op_value (v := .string s0) (by simp [execOp, go_sem]) ?_
  refine hK _ _ (wpList_nil ?_)
  refine wp_seq (wp_seq (wp_region_list ?_))
  rw [e1]
  refine wpList_plain rfl fun K2 hK2 => ?_
  have ev : (a.put (some 2) (.string s0)).tmps[0]?.getD undef = .int kd n := by
    rw [← Array.getD_eq_getD_getElem?, getD_put, if_neg (by omega), ha0]
  generalize ha2 : a.put (some 2) (.string s0) = a2 at *
  refine op_value (v := .int kd n) (by simp [execOp, go_sem, ev]) ?_
  subst ha2
  refine hK2 _ _ (wpList_nil (wp_block ?_))
  generalize hA : (a.put (some 2) (.string s0)).put (some 3) (.int kd n) = A
  have hAs : A.tmps.size = top := by rw [← hA]; simp [Act.put, hsz]
  have hAx : A.tmps.getD 3 undef = .int kd n := by rw [← hA, getD_put, if_pos ⟨rfl, by simp [Act.put, hsz]; omega⟩]
  have hAd : A.defers = [] := by rw [← hA]; simp [Act.put, had]
  clear hA
  have fin : ∀ (A' : Act) (s : ByteArray), Agree 4 A A' → lookT t n = s → bodyPost P fn (fun e w' => e = .returned (.string (lookT t n)) ∧ w = w') .ret (A'.put (some 2) (.string s)) w := fun A' s hag e =>
    ⟨by simp [Act.put, hag.2.1, hAd], .string s, by rw [results_tmp hr, getD_put, if_pos ⟨rfl, by rw [hag.1, hAs]; omega⟩], by rw [e], rfl⟩
  refine wp_arms (x := 3) (lo := 4) (n := n) (by omega) 200 sw l A w hl hAs hAx (fun A' k d hag hm e => ?_) (fun A' hag hno => ?_)
  · obtain ⟨s, h3, h5⟩ := textsOf_mem ht k d hm
    exact wp_armText h3 (fin A' s hag (by rw [e]; exact lookT_mem h1 k s h5))
  · exact wp_armText e2 (fin A' _ hag (lookT_none fun k s hm => by obtain ⟨c, hc⟩ := textsOf_keys ht k s hm; exact hno k c hc))

end Go.Proofs.YtlcaedibmlidlaaGreat

/-
  How the text of a form is read, sign by sign: plain mathematics, and that each text of the table reads as the form of the document's table.
-/
namespace Go.Proofs.YtlcaedibmlidlaaGreat
open Go.RowKit

/-- The sign at a place. -/
def sgn (s : ByteArray) (k : Nat) : Int := ((s.data.toList.getD k 0).toNat : Int)

theorem sgn_at (s : ByteArray) (k : Nat) (h : k < s.size) : ((s[k]'h).toNat : Int) = sgn s k := by
  have h' : k < s.data.toList.length := by simpa using h
  unfold sgn
  rw [List.getD_eq_getElem?_getD, List.getElem?_eq_getElem h']
  rfl

/-- What has been read: which column, where it began, and the form so far. -/
abbrev RdSt := Int × Int × Frm

def rdStep (s : ByteArray) (k : Nat) (c : Int) (x : RdSt) : RdSt :=
  match x with
  | (col, fr, nm, t, r, fx, rs, mo, pa) =>
    if c = 47 then (col + 1, k + 1, nm, t, r, fx, rs, mo, pa)
    else if col = 0 then (col, fr, s.extract fr.toNat (k + 1), t, r, fx, rs, mo, pa)
    else if col = 1 then (col, fr, nm, t || (c == 116), r || (c == 114), fx, rs, mo, pa)
    else if col = 2 then (col, fr, nm, t, r, s.extract fr.toNat (k + 1), rs, mo, pa)
    else if col = 3 then (col, fr, nm, t, r, fx, s.extract fr.toNat (k + 1), mo, pa)
    else if col = 4 then (col, fr, nm, t, r, fx, rs, 10 * mo + (c - 48), pa)
    else (col, fr, nm, t, r, fx, rs, mo, c - 48)

def rdTo (s : ByteArray) : Nat → RdSt
  | 0 => (0, 0, ⟨#[]⟩, false, false, ⟨#[]⟩, ⟨#[]⟩, 0, 0)
  | k + 1 => rdStep s k (sgn s k) (rdTo s k)

/-- A state, and a sign, that the reading of a good text meets. -/
def rdOk (k : Nat) (c : Int) (x : RdSt) : Bool :=
  decide (c < 128 ∧ 0 ≤ c ∧ 0 ≤ x.1 ∧ x.1 ≤ 5 ∧ 0 ≤ x.2.1 ∧ x.2.1 ≤ k ∧ 0 ≤ x.2.2.2.2.2.2.2.1 ∧ x.2.2.2.2.2.2.2.1 ≤ 1000 ∧ (x.1 = 4 → c ≠ 47 → 48 ≤ c) ∧ (x.1 = 5 → c ≠ 47 → 48 ≤ c))
def goodT (s : ByteArray) : Bool := (List.range s.size).all fun k => rdOk k (sgn s k) (rdTo s k)
theorem goodT_at {s : ByteArray} (h : goodT s = true) {k : Nat} (hk : k < s.size) : rdOk k (sgn s k) (rdTo s k) = true := List.all_eq_true.1 h k (List.mem_range.2 hk)

/-- The form that a text tells. -/
def rdF (s : ByteArray) : Frm := (rdTo s s.size).2.2

/-- The text of an operation's form. -/
def ftxt (n : Int) : ByteArray := if n < 41 then lookT namingT n else if n < 124 then lookT makingT n else if n < 164 then lookT countingT n else if n < 194 then lookT comparingT n else if n < 245 then lookT bitT n else lookT flowT n

end Go.Proofs.YtlcaedibmlidlaaGreat

/-
  What form of the document's answer returns: a form of just these fields.
-/
namespace Go.Proofs.YtlcaedibmlidlaaGreat
open Go.RowKit
set_option maxRecDepth 10000

/-- A form as a value. -/
def formV (op : Int) (f : Frm) : Value := .agg #[.int .u16 op, .string f.1, .bool f.2.1, .bool f.2.2.1, .string f.2.2.2.1, .string f.2.2.2.2.1, .int .i64 f.2.2.2.2.2.1, .int .u8 f.2.2.2.2.2.2]
/-- No form. -/
def noFrm : Frm := (⟨#[]⟩, false, false, ⟨#[]⟩, ⟨#[]⟩, 0, 0)

end Go.Proofs.YtlcaedibmlidlaaGreat

/-
  What Of of the document's answer returns, for every operation: the form of its table, or none.
-/
namespace Go.Proofs.YtlcaedibmlidlaaGreat
open Go.RowKit
set_option maxRecDepth 10000
set_option linter.unusedVariables false
set_option linter.unusedSimpArgs false

theorem one_block {w : World} {B T : Nat} {cs : Array Value} (h : w.heap[B]? = some (.cells cs T (0, 0))) : (∀ i, w.cell? ⟨B, i, none⟩ = cs[i]?) ∧ (∀ i, w.frozen? ⟨B, i, none⟩ = false) := by
  refine ⟨fun i => ?_, fun i => ?_⟩
  · simp [World.cell?, h]
  · simp [World.frozen?, h]
theorem alloc_new (w : World) (cs : Array Value) (T : Nat) : (w.alloc (.cells cs T)).heap[w.heap.size]? = some (.cells cs T (0, 0)) := heap_alloc_new w _

theorem eight_set {w : World} {B T : Nat} {z0 z1 z2 z3 z4 z5 z6 z7 : Value} (h : w.heap[B]? = some (.cells #[z0, z1, z2, z3, z4, z5, z6, z7] T (0, 0))) (u0 u1 u2 u3 u4 u5 u6 u7 : Value) :
    ((((((((w.setCell ⟨B, 0, none⟩ u0).setCell ⟨B, 1, none⟩ u1).setCell ⟨B, 2, none⟩ u2).setCell ⟨B, 3, none⟩ u3).setCell ⟨B, 4, none⟩ u4).setCell ⟨B, 5, none⟩ u5).setCell ⟨B, 6, none⟩ u6).setCell ⟨B, 7, none⟩ u7).heap[B]? = some (.cells #[u0, u1, u2, u3, u4, u5, u6, u7] T (0, 0)) := by
  simp only [World.setCell, Array.getElem?_modify, h]; simp
theorem eight_below (w : World) (B : Nat) (u0 u1 u2 u3 u4 u5 u6 u7 : Value) :
    Below B w ((((((((w.setCell ⟨B, 0, none⟩ u0).setCell ⟨B, 1, none⟩ u1).setCell ⟨B, 2, none⟩ u2).setCell ⟨B, 3, none⟩ u3).setCell ⟨B, 4, none⟩ u4).setCell ⟨B, 5, none⟩ u5).setCell ⟨B, 6, none⟩ u6).setCell ⟨B, 7, none⟩ u7) :=
  ((((((((Below.refl B w).setCell (Nat.le_refl _) _).setCell (Nat.le_refl _) _).setCell (Nat.le_refl _) _).setCell (Nat.le_refl _) _).setCell (Nat.le_refl _) _).setCell (Nat.le_refl _) _).setCell (Nat.le_refl _) _).setCell (Nat.le_refl _) _

/-- A form as its cells. -/
def frmCells (n : Int) (f : Frm) : Array Value := #[.int .u16 n, .string f.1, .bool f.2.1, .bool f.2.2.1, .string f.2.2.2.1, .string f.2.2.2.2.1, .int .i64 f.2.2.2.2.2.1, .int .u8 f.2.2.2.2.2.2]

/-- A form in a block: its cells. -/
theorem frm_cells {w : World} {B T : Nat} {n : Int} {f : Frm} (h : w.heap[B]? = some (.cells (frmCells n f) T (0, 0))) :
    w.cell? ⟨B, 0, none⟩ = some (.int .u16 n) ∧ w.cell? ⟨B, 1, none⟩ = some (.string f.1) ∧ w.cell? ⟨B, 2, none⟩ = some (.bool f.2.1) ∧ w.cell? ⟨B, 3, none⟩ = some (.bool f.2.2.1) ∧ w.cell? ⟨B, 4, none⟩ = some (.string f.2.2.2.1) ∧ w.cell? ⟨B, 5, none⟩ = some (.string f.2.2.2.2.1) ∧ w.cell? ⟨B, 6, none⟩ = some (.int .i64 f.2.2.2.2.2.1) ∧ w.cell? ⟨B, 7, none⟩ = some (.int .u8 f.2.2.2.2.2.2) ∧ ∀ i, w.frozen? ⟨B, i, none⟩ = false := by
  obtain ⟨hc, hf⟩ := one_block h
  exact ⟨hc 0, hc 1, hc 2, hc 3, hc 4, hc 5, hc 6, hc 7, hf⟩

/-- The form of an operation, and whether there is one. -/
def lookF : List (Int × Frm) → Int → Frm × Bool
  | [], _ => (noFrm, false)
  | (k, s) :: l, n => if n = k then (s, true) else lookF l n
/-- What is answered of an operation: its number and form, or zeros. -/
def ofV (n : Int) : Value := if (lookF refT n).2 then formV n (lookF refT n).1 else formV 0 noFrm

end Go.Proofs.YtlcaedibmlidlaaGreat

/-
  What the switches over texts of the layer grammar answer: the text of the number, for every number.
-/
namespace Go.Proofs.YtlcaedibmlidlaaGreat
open Go.RowKit
set_option maxRecDepth 10000

theorem namingText_any (n : Int) (w : World) : Calls Tryz.prog 199 #[.int .u16 n] w fun e w' => e = .returned (.string (lookT namingT n)) ∧ w = w' :=
  calls_textSwitch Tryz.func199 rfl rfl (by decide) rfl (by kernel_rfl) (by decide +kernel) n w

theorem makingText_any (n : Int) (w : World) : Calls Tryz.prog 200 #[.int .u16 n] w fun e w' => e = .returned (.string (lookT makingT n)) ∧ w = w' :=
  calls_textSwitch Tryz.func200 rfl rfl (by decide) rfl (by kernel_rfl) (by decide +kernel) n w

theorem countingText_any (n : Int) (w : World) : Calls Tryz.prog 201 #[.int .u16 n] w fun e w' => e = .returned (.string (lookT countingT n)) ∧ w = w' :=
  calls_textSwitch Tryz.func201 rfl rfl (by decide) rfl (by kernel_rfl) (by decide +kernel) n w

theorem comparingText_any (n : Int) (w : World) : Calls Tryz.prog 202 #[.int .u16 n] w fun e w' => e = .returned (.string (lookT comparingT n)) ∧ w = w' :=
  calls_textSwitch Tryz.func202 rfl rfl (by decide) rfl (by kernel_rfl) (by decide +kernel) n w

theorem bitText_any (n : Int) (w : World) : Calls Tryz.prog 203 #[.int .u16 n] w fun e w' => e = .returned (.string (lookT bitT n)) ∧ w = w' :=
  calls_textSwitch Tryz.func203 rfl rfl (by decide) rfl (by kernel_rfl) (by decide +kernel) n w

theorem flowText_any (n : Int) (w : World) : Calls Tryz.prog 204 #[.int .u16 n] w fun e w' => e = .returned (.string (lookT flowT n)) ∧ w = w' :=
  calls_textSwitch Tryz.func204 rfl rfl (by decide) rfl (by kernel_rfl) (by decide +kernel) n w

theorem enumText_any (n : Int) (w : World) : Calls Tryz.prog 206 #[.int .u8 n] w fun e w' => e = .returned (.string (lookT enumT n)) ∧ w = w' :=
  calls_textSwitch Tryz.func206 rfl rfl (by decide) rfl (by kernel_rfl) (by decide +kernel) n w

end Go.Proofs.YtlcaedibmlidlaaGreat

/-
  What readForm of the layer grammar returns, for every text that is good: the form that it tells.
-/
namespace Go.Proofs.YtlcaedibmlidlaaGreat
open Go.RowKit Go.Lib
set_option maxRecDepth 10000
set_option linter.unusedVariables false
set_option linter.unusedSimpArgs false

theorem set_at {w : World} {B T : Nat} {cs : Array Value} (h : w.heap[B]? = some (.cells cs T (0, 0))) (i : Nat) (v : Value) : (w.setCell ⟨B, i, none⟩ v).heap[B]? = some (.cells (cs.setIfInBounds i v) T (0, 0)) := by
  simp only [World.setCell, Array.getElem?_modify, h]; simp

theorem set_off (w : World) (B i : Nat) (v : Value) {k : Nat} (h : k ≠ B) : (w.setCell ⟨B, i, none⟩ v).heap[k]? = w.heap[k]? := Below.heap_setCell w ⟨B, i, none⟩ v k (by simpa using h)

theorem allocs2 (w : World) (a b : Obj) : ((w.alloc a).alloc b).heap[w.heap.size]? = some a ∧ ((w.alloc a).alloc b).heap[w.heap.size + 1]? = some b :=
  ⟨(Below.heap_alloc _ _ _ (by simp)).trans (heap_alloc_new w _), by have := heap_alloc_new (w.alloc a) b; rw [World.size_alloc] at this; exact this⟩
theorem allocs3 (w : World) (a b c : Obj) : (((w.alloc a).alloc b).alloc c).heap[w.heap.size]? = some a ∧ (((w.alloc a).alloc b).alloc c).heap[w.heap.size + 1]? = some b ∧ (((w.alloc a).alloc b).alloc c).heap[w.heap.size + 2]? = some c :=
  ⟨(Below.heap_alloc _ _ _ (by simp; omega)).trans (allocs2 w a b).1, (Below.heap_alloc _ _ _ (by simp)).trans (allocs2 w a b).2, by have := heap_alloc_new ((w.alloc a).alloc b) c; rw [World.size_alloc, World.size_alloc] at this; exact this⟩

/-- What holds between two signs. -/
def RdI (w : World) (s : ByteArray) (n : Int) (k : Nat) (W : World) : Prop :=
  Below w.heap.size w W ∧ W.heap[w.heap.size]? = some (.cells (frmCells 0 noFrm) 248 (0, 0)) ∧ W.heap[w.heap.size + 1]? = some (.cells (frmCells n (rdTo s k).2.2) 248 (0, 0)) ∧ W.heap[w.heap.size + 2]? = some (.stringIter s k)

/-- How many signs are left. -/
def left (b m : Nat) (W : World) : Nat := match W.heap[b]? with | some (.stringIter _ k) => m - k | _ => 0
theorem left_at {b m : Nat} {W : World} {s : ByteArray} {k : Nat} (h : W.heap[b]? = some (.stringIter s k)) : left b m W = m - k := by unfold left; rw [h]

set_option maxRecDepth 10000 in
set_option maxHeartbeats 4000000 in
theorem readForm_any (n : Int) (s : ByteArray) (w : World) (hg : goodT s = true) (hs : s.size ≤ 1000) :
    Calls Tryz.prog 184 #[.int .u16 n, .string s] w fun e w' => e = .returned (formV n (rdF s)) ∧ Below w.heap.size w w' := by
  have HG : Hid (goodT s = true) := hg
  clear hg
  go_enter Tryz.func184, Tryz.ntmps184
  go_wp2
  go_loopw [6, 7] (fun c f W => ∃ k : Nat, k ≤ s.size ∧ c = .int .i64 (rdTo s k).1 ∧ f = .int .i64 (rdTo s k).2.1 ∧ RdI w s n k W) (fun _ _ W => left (w.heap.size + 2) s.size W)
  case atStart =>
    refine ⟨0, Nat.zero_le _, rfl, rfl, (((Below.refl _ w).alloc (Nat.le_refl _) _).alloc (by simp) _).alloc (by simp; omega) _, ?_, ?_, ?_⟩
    · exact (allocs3 w _ _ _).1
    · exact (allocs3 w _ _ _).2.1
    · exact (allocs3 w _ _ _).2.2
  case round =>
    obtain ⟨k, hk, rfl, rfl, hb, h4, h5, hit⟩ := hrel
    have hl0 : left (w.heap.size + 2) s.size wr = s.size - k := left_at hit
    by_cases hlt : k < s.size
    · have hok := goodT_at HG.out hlt
      have HS : Hid (rdTo s (k + 1) = rdStep s k (sgn s k) (rdTo s k)) := rfl
      have hsg := sgn_at s k hlt
      generalize sgn s k = c at *
      generalize hrd : rdTo s k = x at *
      obtain ⟨col, fr, nm, t, r, fx, rs, mo, pa⟩ := x
      simp only [rdOk, decide_eq_true_eq] at hok
      obtain ⟨o1, o2, o3, o4, o5, o6, o7, o8, o9, o10⟩ := hok
      have hnx := fun ty => run_next_ascii_at (P := Tryz.prog) _ _ s k ty hit hlt (by omega)
      rw [hsg] at hnx
      obtain ⟨W1, hW1⟩ : ∃ X, X = wr.iterAt (w.heap.size + 2) s (k + 1) := ⟨_, rfl⟩
      rw [← hW1] at hnx
      have hb1 : Below w.heap.size w W1 := by rw [hW1]; exact below_iterAt hb (by omega) _ _
      have i1 : W1.heap[w.heap.size + 2]? = some (.stringIter s (k + 1)) := by rw [hW1]; exact iterAt_heap _ _ _ _ _ hit
      have g4 : W1.heap[w.heap.size]? = some (.cells (frmCells 0 noFrm) 248 (0, 0)) := by rw [hW1, iterAt_other _ _ _ _ _ (by omega)]; exact h4
      have g5 : W1.heap[w.heap.size + 1]? = some (.cells (frmCells n (nm, t, r, fx, rs, mo, pa)) 248 (0, 0)) := by rw [hW1, iterAt_other _ _ _ _ _ (by omega)]; exact h5
      clear hW1 h4 h5 hit hb hsg hrd
      obtain ⟨hc, hf⟩ := one_block g5
      have HB : Hid (Below w.heap.size w W1) := hb1
      have H4 : Hid (W1.heap[w.heap.size]? = some (.cells (frmCells 0 noFrm) 248 (0, 0))) := g4
      have H5 : Hid (W1.heap[w.heap.size + 1]? = some (.cells (frmCells n (nm, t, r, fx, rs, mo, pa)) 248 (0, 0))) := g5
      have HI : Hid (W1.heap[w.heap.size + 2]? = some (.stringIter s (k + 1))) := i1
      have HL : Hid (left (w.heap.size + 2) s.size wr = s.size - k) := hl0
      clear g4 g5 i1 hb1 hl0
      by_cases h47 : c = 47
      · subst h47
        have e1 : rdTo s (k + 1) = (col + 1, (k : Int) + 1, nm, t, r, fx, rs, mo, pa) := by rw [HS.out]; simp [rdStep]
        have HE : Hid (rdTo s (k + 1) = (col + 1, (k : Int) + 1, nm, t, r, fx, rs, mo, pa)) := e1
        clear e1 HS hc hf o9 o10
        go_wp2
        go_roundw
        case rel => exact ⟨k + 1, by omega, by rw [HE.out], by rw [HE.out], HB.out, H4.out, by rw [HE.out]; exact H5.out, HI.out⟩
        case measure => rw [HL.out, left_at HI.out]; omega
      · have hne : (c == 47) = false := by simpa using h47
        have c1 := hc 1
        have c2 := hc 2
        have c3 := hc 3
        have c4 := hc 4
        have c5 := hc 5
        have c6 := hc 6
        have c7 := hc 7
        have f1 := hf 1
        have f2 := hf 2
        have f3 := hf 3
        have f4 := hf 4
        have f5 := hf 5
        have f6 := hf 6
        have f7 := hf 7
        clear hc hf
        unfold frmCells at c1 c2 c3 c4 c5 c6 c7
        rcases (show col = 0 ∨ col = 1 ∨ col = 2 ∨ col = 3 ∨ col = 4 ∨ col = 5 by omega) with rfl | rfl | rfl | rfl | rfl | rfl
        · have HE : Hid (rdTo s (k + 1) = (0, fr, s.extract fr.toNat (k + 1), t, r, fx, rs, mo, pa)) := by show _ = _; rw [HS.out]; simp [rdStep, h47]
          clear HS o9 o10
          go_wp2
          go_roundw
          case rel => exact ⟨k + 1, by omega, by rw [HE.out], by rw [HE.out], HB.out.setCell (by simp) _, (set_off _ _ _ _ (by omega)).trans H4.out, by rw [HE.out]; exact set_at H5.out 1 _, (set_off _ _ _ _ (by omega)).trans HI.out⟩
          case measure => rw [HL.out, left_at ((set_off _ _ _ _ (by omega)).trans HI.out)]; omega
        · have HE : Hid (rdTo s (k + 1) = (1, fr, nm, t || (c == 116), r || (c == 114), fx, rs, mo, pa)) := by show _ = _; rw [HS.out]; simp [rdStep, h47]
          clear HS o9 o10
          cases t <;> cases r
          all_goals
            go_wp2
            go_roundw
            case rel => exact ⟨k + 1, by omega, by rw [HE.out], by rw [HE.out], (HB.out.setCell (by simp) _).setCell (by simp) _, (set_off _ _ _ _ (by omega)).trans ((set_off _ _ _ _ (by omega)).trans H4.out), by rw [HE.out]; exact set_at (set_at H5.out 2 _) 3 _, (set_off _ _ _ _ (by omega)).trans ((set_off _ _ _ _ (by omega)).trans HI.out)⟩
            case measure => rw [HL.out, left_at ((set_off _ _ _ _ (by omega)).trans ((set_off _ _ _ _ (by omega)).trans HI.out))]; omega
        · have HE : Hid (rdTo s (k + 1) = (2, fr, nm, t, r, s.extract fr.toNat (k + 1), rs, mo, pa)) := by show _ = _; rw [HS.out]; simp [rdStep, h47]
          clear HS o9 o10
          go_wp2
          go_roundw
          case rel => exact ⟨k + 1, by omega, by rw [HE.out], by rw [HE.out], HB.out.setCell (by simp) _, (set_off _ _ _ _ (by omega)).trans H4.out, by rw [HE.out]; exact set_at H5.out 4 _, (set_off _ _ _ _ (by omega)).trans HI.out⟩
          case measure => rw [HL.out, left_at ((set_off _ _ _ _ (by omega)).trans HI.out)]; omega
        · have HE : Hid (rdTo s (k + 1) = (3, fr, nm, t, r, fx, s.extract fr.toNat (k + 1), mo, pa)) := by show _ = _; rw [HS.out]; simp [rdStep, h47]
          clear HS o9 o10
          go_wp2
          go_roundw
          case rel => exact ⟨k + 1, by omega, by rw [HE.out], by rw [HE.out], HB.out.setCell (by simp) _, (set_off _ _ _ _ (by omega)).trans H4.out, by rw [HE.out]; exact set_at H5.out 5 _, (set_off _ _ _ _ (by omega)).trans HI.out⟩
          case measure => rw [HL.out, left_at ((set_off _ _ _ _ (by omega)).trans HI.out)]; omega
        · have HE : Hid (rdTo s (k + 1) = (4, fr, nm, t, r, fx, rs, 10 * mo + (c - 48), pa)) := by show _ = _; rw [HS.out]; simp [rdStep, h47]
          clear HS 
          have o11 := o9 rfl h47
          clear o9 o10
          go_wp2
          go_roundw
          case rel => exact ⟨k + 1, by omega, by rw [HE.out], by rw [HE.out], HB.out.setCell (by simp) _, (set_off _ _ _ _ (by omega)).trans H4.out, by rw [HE.out]; exact set_at H5.out 6 _, (set_off _ _ _ _ (by omega)).trans HI.out⟩
          case measure => rw [HL.out, left_at ((set_off _ _ _ _ (by omega)).trans HI.out)]; omega
        · have HE : Hid (rdTo s (k + 1) = (5, fr, nm, t, r, fx, rs, mo, c - 48)) := by show _ = _; rw [HS.out]; simp [rdStep, h47]
          clear HS 
          have o11 := o10 rfl h47
          clear o9 o10
          go_wp2
          go_roundw
          case rel => exact ⟨k + 1, by omega, by rw [HE.out], by rw [HE.out], HB.out.setCell (by simp) _, (set_off _ _ _ _ (by omega)).trans H4.out, by rw [HE.out]; exact set_at H5.out 7 _, (set_off _ _ _ _ (by omega)).trans HI.out⟩
          case measure => rw [HL.out, left_at ((set_off _ _ _ _ (by omega)).trans HI.out)]; omega
    · have hnx := fun ty => run_next_end_at (P := Tryz.prog) _ _ s k ty hit hlt
      obtain rfl : k = s.size := by omega
      have HF : Hid (rdF s = (rdTo s s.size).2.2) := rfl
      generalize rdTo s s.size = x at *
      obtain ⟨col, fr, nm, t, r, fx, rs, mo, pa⟩ := x
      obtain ⟨hc, hf⟩ := one_block h5
      obtain ⟨gc, gf⟩ := one_block h4
      have c0 := hc 0
      have c1 := hc 1
      have c2 := hc 2
      have c3 := hc 3
      have c4 := hc 4
      have c5 := hc 5
      have c6 := hc 6
      have c7 := hc 7
      have d0 := gc 0
      have d1 := gc 1
      have d2 := gc 2
      have d3 := gc 3
      have d4 := gc 4
      have d5 := gc 5
      have d6 := gc 6
      have d7 := gc 7
      unfold frmCells at c0 c1 c2 c3 c4 c5 c6 c7
      unfold frmCells noFrm at d0 d1 d2 d3 d4 d5 d6 d7
      have HB : Hid (Below w.heap.size w wr) := hb
      have H4 : Hid (wr.heap[w.heap.size]? = some (.cells (frmCells 0 noFrm) 248 (0, 0))) := h4
      clear hc gc h4 h5 hit hl0 hb
      go_wp2
      have hx := eight_set H4.out (.int .u16 n) (.string nm) (.bool t) (.bool r) (.string fx) (.string rs) (.int .i64 mo) (.int .u8 pa)
      have hy := eight_below wr w.heap.size (.int .u16 n) (.string nm) (.bool t) (.bool r) (.string fx) (.string rs) (.int .i64 mo) (.int .u8 pa)
      obtain ⟨xc, xf⟩ := one_block hx
      have x0 := xc 0
      have x1 := xc 1
      have x2 := xc 2
      have x3 := xc 3
      have x4 := xc 4
      have x5 := xc 5
      have x6 := xc 6
      have x7 := xc 7
      clear hx xc d0 d1 d2 d3 d4 d5 d6 d7 c0 c1 c2 c3 c4 c5 c6 c7 gf hf xf
      generalize hZ : ((((((((wr.setCell ⟨w.heap.size, 0, none⟩ (.int .u16 n)).setCell ⟨w.heap.size, 1, none⟩ (.string nm)).setCell ⟨w.heap.size, 2, none⟩ (.bool t)).setCell ⟨w.heap.size, 3, none⟩ (.bool r)).setCell ⟨w.heap.size, 4, none⟩ (.string fx)).setCell ⟨w.heap.size, 5, none⟩ (.string rs)).setCell ⟨w.heap.size, 6, none⟩ (.int .i64 mo)).setCell ⟨w.heap.size, 7, none⟩ (.int .u8 pa)) = Z at *
      exact bodyPost_ret (v := formV n (nm, t, r, fx, rs, mo, pa)) (by simp [results, Tryz.results184, go_sem, formV, x0, x1, x2, x3, x4, x5, x6, x7]) rfl ⟨by rw [HF.out], HB.out.trans hy⟩

end Go.Proofs.YtlcaedibmlidlaaGreat

/-
  What formText and Of of the layer grammar return, for every operation; and that each text reads as the form of the document's table.
-/
namespace Go.Proofs.YtlcaedibmlidlaaGreat
open Go.RowKit
set_option maxRecDepth 10000
set_option linter.unusedVariables false
set_option linter.unusedSimpArgs false

theorem formText_any (n : Int) (w : World) : Calls Tryz.prog 183 #[.int .u16 n] w fun e w' => e = .returned (.string (ftxt n)) ∧ w = w' := by
  by_cases h1 : n < 41
  · have e : ftxt n = lookT namingT n := by unfold ftxt; rw [if_pos h1]
    go_enter Tryz.func183, Tryz.ntmps183
    go_wp2_with (go_at_call 199; refine (namingText_any _ _).mono ?_; rintro e w' ⟨rfl, rfl⟩)
    go_ret
    exact ⟨by rw [e]; rfl, rfl⟩
  · by_cases h2 : n < 124
    · have e : ftxt n = lookT makingT n := by unfold ftxt; rw [if_neg h1, if_pos h2]
      go_enter Tryz.func183, Tryz.ntmps183
      go_wp2_with (go_at_call 200; refine (makingText_any _ _).mono ?_; rintro e w' ⟨rfl, rfl⟩)
      go_ret
      exact ⟨by rw [e]; rfl, rfl⟩
    · by_cases h3 : n < 164
      · have e : ftxt n = lookT countingT n := by unfold ftxt; rw [if_neg h1, if_neg h2, if_pos h3]
        go_enter Tryz.func183, Tryz.ntmps183
        go_wp2_with (go_at_call 201; refine (countingText_any _ _).mono ?_; rintro e w' ⟨rfl, rfl⟩)
        go_ret
        exact ⟨by rw [e]; rfl, rfl⟩
      · by_cases h4 : n < 194
        · have e : ftxt n = lookT comparingT n := by unfold ftxt; rw [if_neg h1, if_neg h2, if_neg h3, if_pos h4]
          go_enter Tryz.func183, Tryz.ntmps183
          go_wp2_with (go_at_call 202; refine (comparingText_any _ _).mono ?_; rintro e w' ⟨rfl, rfl⟩)
          go_ret
          exact ⟨by rw [e]; rfl, rfl⟩
        · by_cases h5 : n < 245
          · have e : ftxt n = lookT bitT n := by unfold ftxt; rw [if_neg h1, if_neg h2, if_neg h3, if_neg h4, if_pos h5]
            go_enter Tryz.func183, Tryz.ntmps183
            go_wp2_with (go_at_call 203; refine (bitText_any _ _).mono ?_; rintro e w' ⟨rfl, rfl⟩)
            go_ret
            exact ⟨by rw [e]; rfl, rfl⟩
          · have e : ftxt n = lookT flowT n := by unfold ftxt; rw [if_neg h1, if_neg h2, if_neg h3, if_neg h4, if_neg h5]
            go_enter Tryz.func183, Tryz.ntmps183
            go_wp2_with (go_at_call 204; refine (flowText_any _ _).mono ?_; rintro e w' ⟨rfl, rfl⟩)
            go_ret
            exact ⟨by rw [e]; rfl, rfl⟩

/-! ### the two tables are one -/

theorem lookF_true : ∀ {l : List (Int × Frm)} {n : Int}, (lookF l n).2 = true → (n, (lookF l n).1) ∈ l
  | [], n, h => by cases h
  | (k, s) :: l, n, h => by
    rw [lookF] at h ⊢
    split at h
    · rename_i e; subst e; rw [if_pos rfl]; exact List.mem_cons_self
    · rename_i e; rw [if_neg e]; exact List.mem_cons_of_mem _ (lookF_true h)
theorem lookF_false : ∀ {l : List (Int × Frm)} {n : Int}, (lookF l n).2 = false → lookF l n = (noFrm, false) ∧ ∀ k s, (k, s) ∈ l → n ≠ k
  | [], n, h => ⟨rfl, fun _ _ hm => by cases hm⟩
  | (k, s) :: l, n, h => by
    rw [lookF] at h ⊢
    split at h
    · cases h
    · rename_i e
      rw [if_neg e]
      refine ⟨(lookF_false h).1, fun k' s' hm => ?_⟩
      rcases List.mem_cons.1 hm with e' | hm
      · cases e'; exact e
      · exact (lookF_false h).2 k' s' hm

def rowOk (p : Int × Frm) : Bool := goodT (ftxt p.1) && decide ((ftxt p.1).size ≤ 1000) && decide ((ftxt p.1).size ≠ 0) && decide (rdF (ftxt p.1) = p.2)
theorem rows_ok : refT.all rowOk = true := by decide +kernel
def keyIn (t : List (Int × ByteArray)) : Bool := t.all fun p => refT.any fun q => decide (q.1 = p.1)
theorem keys_in : (keyIn namingT && keyIn makingT && keyIn countingT && keyIn comparingT && keyIn bitT && keyIn flowT) = true := by decide +kernel
theorem key_none {t : List (Int × ByteArray)} (h : keyIn t = true) {n : Int} (hn : ∀ k s, (k, s) ∈ refT → n ≠ k) : lookT t n = ⟨#[]⟩ := lookT_none fun k s hm e => by
  have := List.all_eq_true.1 h (k, s) hm
  obtain ⟨q, hq, e2⟩ := List.any_eq_true.1 this
  exact hn q.1 q.2 hq (by rw [e]; exact (of_decide_eq_true e2).symm)

/-- Every operation's text: it reads as the form of the document's table; it is empty just if there is none. -/
theorem ftxt_ok (n : Int) : goodT (ftxt n) = true ∧ (ftxt n).size ≤ 1000 ∧ rdF (ftxt n) = (lookF refT n).1 ∧ ((lookF refT n).2 = true → (ftxt n).size ≠ 0) ∧ ((lookF refT n).2 = false → ftxt n = ⟨#[]⟩) := by
  cases h : (lookF refT n).2
  · obtain ⟨h1, h2⟩ := lookF_false h
    have hk := keys_in
    simp only [Bool.and_eq_true] at hk
    obtain ⟨⟨⟨⟨⟨k1, k2⟩, k3⟩, k4⟩, k5⟩, k6⟩ := hk
    have e : ftxt n = ⟨#[]⟩ := by
      unfold ftxt
      rw [key_none k1 h2, key_none k2 h2, key_none k3 h2, key_none k4 h2, key_none k5 h2, key_none k6 h2]
      simp
    rw [e, h1]
    exact ⟨by decide +kernel, by decide, by decide +kernel, fun h => (by cases h), fun _ => rfl⟩
  · have hm := lookF_true h
    have hr := List.all_eq_true.1 rows_ok _ hm
    simp only [rowOk, Bool.and_eq_true, decide_eq_true_eq] at hr
    obtain ⟨⟨⟨r1, r2⟩, r3⟩, r4⟩ := hr
    exact ⟨r1, r2, r4, fun _ => r3, fun h => by cases h⟩

theorem readForm_op (n : Int) (w : World) : Calls Tryz.prog 184 #[.int .u16 n, .string (ftxt n)] w fun e w' => e = .returned (formV n (lookF refT n).1) ∧ Below w.heap.size w w' := by
  obtain ⟨h1, h2, h3, _, _⟩ := ftxt_ok n
  rw [← h3]
  exact readForm_any n (ftxt n) w h1 h2

theorem bytes_empty (s : ByteArray) (h : s.size ≠ 0) : (s.toList == ([] : List UInt8)) = false := by
  rw [ByteArray.toList_eq]
  cases e : s.data.toList with
  | nil => exfalso; apply h; show s.data.size = 0; rw [← Array.length_toList, e]; rfl
  | cons a l => rfl

set_option maxHeartbeats 1000000 in
theorem of_any (n : Int) (w : World) : Calls Tryz.prog 163 #[.int .u16 n] w fun e w' => e = .returned (.tuple #[ofV n, .bool (lookF refT n).2]) ∧ Below w.heap.size w w' := by
  obtain ⟨_, _, _, h4, h5⟩ := ftxt_ok n
  cases h : (lookF refT n).2
  · have e := h5 h
    have hT := fun w => formText_any n w
    rw [e] at hT
    have HO : Hid (ofV n = formV 0 noFrm) := by show _ = _; unfold ofV; rw [h]; rfl
    clear h4 h5 e h
    go_enter Tryz.func163, Tryz.ntmps163
    go_wp2_with (go_at_call 183; refine (hT _).mono ?_; rintro e w' ⟨rfl, rfl⟩)
    rw [HO.out]
    exact bodyPost_ret (v := .tuple #[formV 0 noFrm, .bool false]) (by simp [results, Tryz.results163, go_sem, formV, noFrm]) rfl ⟨rfl, (Below.refl _ _).alloc (Nat.le_refl _) _⟩
  · have e := bytes_empty _ (h4 h)
    have HO : Hid (ofV n = formV n (lookF refT n).1) := by show _ = _; unfold ofV; rw [h]; rfl
    have hT := fun w => formText_any n w
    have hR := fun w => readForm_op n w
    clear h4 h5 h
    generalize ftxt n = s at *
    generalize (lookF refT n).1 = f at *
    go_enter Tryz.func163, Tryz.ntmps163
    go_wp2_with (go_at_call 183; refine (hT _).mono ?_; rintro e w' ⟨rfl, rfl⟩)
    refine (hR _).mono ?_
    rintro e w1 ⟨rfl, hb⟩
    have hB := (hb.block w.heap.size (by simp)).trans (alloc_new w _ _)
    have hbw : Below w.heap.size w w1 := ((Below.refl _ w).alloc (Nat.le_refl _) _).trans (hb.mono (by simp))
    have HB : Hid (w1.heap[w.heap.size]? = some (.cells (frmCells 0 noFrm) 167 (0, 0))) := hB
    obtain ⟨d0, d1, d2, d3, d4, d5, d6, d7, df⟩ := frm_cells (n := 0) (f := noFrm) hB
    unfold noFrm at d1 d2 d3 d4 d5 d6 d7
    clear hB hb hT hR
    obtain ⟨nm, t, r, fx, rs, mo, pa⟩ := f
    unfold formV
    go_wp2
    have hx := eight_set HB.out (.int .u16 n) (.string nm) (.bool t) (.bool r) (.string fx) (.string rs) (.int .i64 mo) (.int .u8 pa)
    have hy := eight_below w1 w.heap.size (.int .u16 n) (.string nm) (.bool t) (.bool r) (.string fx) (.string rs) (.int .i64 mo) (.int .u8 pa)
    obtain ⟨x0, x1, x2, x3, x4, x5, x6, x7, xf⟩ := frm_cells (n := n) (f := (nm, t, r, fx, rs, mo, pa)) hx
    clear hx d0 d1 d2 d3 d4 d5 d6 d7 df xf
    generalize ((((((((w1.setCell ⟨w.heap.size, 0, none⟩ (.int .u16 n)).setCell ⟨w.heap.size, 1, none⟩ (.string nm)).setCell ⟨w.heap.size, 2, none⟩ (.bool t)).setCell ⟨w.heap.size, 3, none⟩ (.bool r)).setCell ⟨w.heap.size, 4, none⟩ (.string fx)).setCell ⟨w.heap.size, 5, none⟩ (.string rs)).setCell ⟨w.heap.size, 6, none⟩ (.int .i64 mo)).setCell ⟨w.heap.size, 7, none⟩ (.int .u8 pa)) = Z at *
    exact bodyPost_ret (v := .tuple #[formV n (nm, t, r, fx, rs, mo, pa), .bool true]) (by simp [results, Tryz.results163, go_sem, formV, x0, x1, x2, x3, x4, x5, x6, x7]) rfl ⟨by rw [HO.out], hbw.trans hy⟩

end Go.Proofs.YtlcaedibmlidlaaGreat

/-
  What the methods of a form answer that tell the letters of its arguments, for every form that lies in memory; and Letter, for every operation and number.
-/
namespace Go.Proofs.YtlcaedibmlidlaaGreat
open Go.RowKit
set_option maxRecDepth 10000
set_option linter.unusedVariables false
set_option linter.unusedSimpArgs false

/-- A form whose texts are short. -/
def shortF (f : Frm) : Bool := decide (f.2.2.2.1.size ≤ 1000) && decide (f.2.2.2.2.1.size ≤ 1000) && decide (0 ≤ f.2.2.2.2.2.1) && decide (f.2.2.2.2.2.1 ≤ 1000)

/-- Whether an argument may stand behind Fixed, at that number behind it. -/
def mayB (f : Frm) (b : Int) : Bool := if f.2.2.2.2.1.size = 0 then false else if f.2.2.2.2.2.1 = 0 then true else decide (b / f.2.2.2.2.1.size < f.2.2.2.2.2.1)

/-- The letter of an argument. -/
def letterI (f : Frm) (i : Int) : Int :=
  if i < 0 then 0 else if i < f.2.2.2.1.size then sgn f.2.2.2.1 i.toNat else if mayB f (i - f.2.2.2.1.size) then sgn f.2.2.2.2.1 ((i - f.2.2.2.1.size) % f.2.2.2.2.1.size).toNat else 0

theorem noLetter_any (p : Value) (i : Int) (w : World) : Calls Tryz.prog 210 #[p, .int .i64 i] w fun e w' => e = .returned (.int .u8 0) ∧ w = w' := by
  go_enter Tryz.func210, Tryz.ntmps210
  go_wp2
  go_ret
  exact ⟨rfl, rfl⟩

theorem fixedLetter_any (B : Nat) (n : Int) (f : Frm) (i : Int) (w : World) (h : w.heap[B]? = some (.cells (frmCells n f) 248 (0, 0))) (h0 : 0 ≤ i) (h1 : i < f.2.2.2.1.size) (hs : f.2.2.2.1.size ≤ 1000) :
    Calls Tryz.prog 211 #[.pointer (some ⟨B, 0, none⟩), .int .i64 i] w fun e w' => e = .returned (.int .u8 (sgn f.2.2.2.1 i.toNat)) ∧ w = w' := by
  obtain ⟨d0, d1, d2, d3, d4, d5, d6, d7, df⟩ := frm_cells h
  obtain ⟨nm, t, r, fx, rs, mo, pa⟩ := f
  simp only at *
  obtain ⟨k, rfl⟩ := Int.eq_ofNat_of_zero_le h0
  have hk : k < fx.size := by omega
  have hsg := sgn_at fx k hk
  clear h d0 d1 d2 d3 d5 d6 d7 df
  go_enter Tryz.func211, Tryz.ntmps211
  go_wp2
  go_ret
  exact ⟨rfl, rfl⟩

theorem wrapI (x : Int) (h0 : -9223372036854775808 ≤ x) (h1 : x < 9223372036854775808) : IntKind.i64.wrap x = x := by rw [IntKind.wrap_i64]; omega

theorem string_some (s : ByteArray) (h : s.size ≠ 0) : (s.toList == ([] : List UInt8)) = false := bytes_empty s h
theorem string_none (s : ByteArray) (h : s.size = 0) : (s.toList == ([] : List UInt8)) = true := by
  rw [ByteArray.toList_eq]
  have : s.data.toList = [] := by rw [← List.length_eq_zero_iff, Array.length_toList]; exact h
  rw [this]; rfl

theorem mayFollow_any (B : Nat) (n : Int) (f : Frm) (b : Int) (w : World) (h : w.heap[B]? = some (.cells (frmCells n f) 248 (0, 0))) (h0 : 0 ≤ b) (h1 : b < 9223372036854775808) (hs : shortF f = true) :
    Calls Tryz.prog 212 #[.pointer (some ⟨B, 0, none⟩), .int .i64 b] w fun e w' => e = .returned (.bool (mayB f b)) ∧ ∃ q, w' = w.drewN q := by
  obtain ⟨d0, d1, d2, d3, d4, d5, d6, d7, df⟩ := frm_cells h
  obtain ⟨nm, t, r, fx, rs, mo, pa⟩ := f
  simp only [shortF, Bool.and_eq_true, decide_eq_true_eq] at hs
  obtain ⟨⟨⟨s1, s2⟩, s3⟩, s4⟩ := hs
  simp only at *
  clear h d0 d1 d2 d3 d4 d7 df
  by_cases hr : rs.size = 0
  · have e := string_none rs hr
    have HM : Hid (mayB (nm, t, r, fx, rs, mo, pa) b = false) := by show _ = _; simp [mayB, hr]
    clear hr
    go_enter Tryz.func212, Tryz.ntmps212
    go_wp2
    go_ret
    exact ⟨by rw [HM.out]; rfl, 0, rfl⟩
  · have e := string_some rs hr
    by_cases hm : mo = 0
    · subst hm
      have HM : Hid (mayB (nm, t, r, fx, rs, 0, pa) b = true) := by show _ = _; simp [mayB, hr]
      clear hr s3 s4
      go_enter Tryz.func212, Tryz.ntmps212
      go_wp2
      go_quiet (fail)
      go_wp2
      go_ret
      exact ⟨by rw [HM.out]; rfl, _, rfl⟩
    · have hm' : (mo == 0) = false := by simpa using hm
      have HM : Hid (mayB (nm, t, r, fx, rs, mo, pa) b = decide (b / (rs.size : Int) < mo)) := by show _ = _; simp [mayB, hr, hm]
      have hr0 : (0 : Int) < (rs.size : Int) := by omega
      have hq0 : 0 ≤ b / (rs.size : Int) := Int.ediv_nonneg h0 (by omega)
      have hq1 : b / (rs.size : Int) ≤ b := Int.ediv_le_self _ h0
      have ht : Int.tdiv b (rs.size : Int) = b / (rs.size : Int) := Int.tdiv_eq_ediv_of_nonneg h0
      have hw : IntKind.i64.wrap (b / (rs.size : Int)) = b / (rs.size : Int) := wrapI _ (by omega) (by omega)
      have hz : ¬ (rs.size : Int) = 0 := by omega
      go_enter Tryz.func212, Tryz.ntmps212
      go_wp2
      go_quiet (fail)
      go_wp2
      go_ret
      exact ⟨by rw [HM.out]; rfl, _, rfl⟩

theorem restLetter_any (B : Nat) (n : Int) (f : Frm) (i : Int) (w : World) (h : w.heap[B]? = some (.cells (frmCells n f) 248 (0, 0))) (h0 : (f.2.2.2.1.size : Int) ≤ i) (h1 : i < 9223372036854775808) (hs : shortF f = true) (hr : f.2.2.2.2.1.size ≠ 0) :
    Calls Tryz.prog 213 #[.pointer (some ⟨B, 0, none⟩), .int .i64 i] w fun e w' => e = .returned (.int .u8 (sgn f.2.2.2.2.1 ((i - f.2.2.2.1.size) % f.2.2.2.2.1.size).toNat)) ∧ ∃ q, w' = w.drewN q := by
  obtain ⟨d0, d1, d2, d3, d4, d5, d6, d7, df⟩ := frm_cells h
  obtain ⟨nm, t, r, fx, rs, mo, pa⟩ := f
  simp only [shortF, Bool.and_eq_true, decide_eq_true_eq] at hs
  obtain ⟨⟨⟨s1, s2⟩, s3⟩, s4⟩ := hs
  simp only at *
  clear h d0 d1 d2 d3 d6 d7 df s3 s4
  have hr0 : (0 : Int) < (rs.size : Int) := by omega
  have hz : ¬ (rs.size : Int) = 0 := by omega
  have hb0 : 0 ≤ i - (fx.size : Int) := by omega
  have hw1 : IntKind.i64.wrap (i - (fx.size : Int)) = i - (fx.size : Int) := wrapI _ (by omega) (by omega)
  have ht : Int.tmod (i - (fx.size : Int)) (rs.size : Int) = (i - (fx.size : Int)) % (rs.size : Int) := Int.tmod_eq_emod_of_nonneg hb0
  have hq0 : 0 ≤ (i - (fx.size : Int)) % (rs.size : Int) := Int.emod_nonneg _ hz
  have hq1 : (i - (fx.size : Int)) % (rs.size : Int) < (rs.size : Int) := Int.emod_lt_of_pos _ hr0
  have hw2 : IntKind.i64.wrap ((i - (fx.size : Int)) % (rs.size : Int)) = (i - (fx.size : Int)) % (rs.size : Int) := wrapI _ (by omega) (by omega)
  obtain ⟨k, hk⟩ := Int.eq_ofNat_of_zero_le hq0
  rw [hk] at ht hq1 hw2 ⊢
  have hkl : k < rs.size := by omega
  have hsg := sgn_at rs k hkl
  clear hk hq0
  go_enter Tryz.func213, Tryz.ntmps213
  go_wp2
  go_quiet (fail)
  go_wp2
  go_ret
  exact ⟨rfl, _, rfl⟩

/-- Which method tells the argument. -/
def tellerN (f : Frm) (i : Int) : Nat := if i < 0 then 210 else if i < f.2.2.2.1.size then 211 else if mayB f (i - f.2.2.2.1.size) then 213 else 210

theorem teller_any (B : Nat) (n : Int) (f : Frm) (i : Int) (w : World) (h : w.heap[B]? = some (.cells (frmCells n f) 248 (0, 0))) (h1 : i < 9223372036854775808) (hs : shortF f = true) :
    Calls Tryz.prog 205 #[.pointer (some ⟨B, 0, none⟩), .int .i64 i] w fun e w' => e = .returned (.func (.func (tellerN f i)) #[.pointer (some ⟨B, 0, none⟩)] #[]) ∧ ∃ q, w' = w.drewN q := by
  have HM : Hid (∀ b : Int, 0 ≤ b → b < 9223372036854775808 → _) := fun (b : Int) (h0 : 0 ≤ b) (h1 : b < 9223372036854775808) => mayFollow_any B n f b w h h0 h1 hs
  obtain ⟨d0, d1, d2, d3, d4, d5, d6, d7, df⟩ := frm_cells h
  have hs2 := hs
  simp only [shortF, Bool.and_eq_true, decide_eq_true_eq] at hs
  obtain ⟨⟨⟨s1, s2⟩, s3⟩, s4⟩ := hs
  clear h d0 d1 d2 d3 d5 d6 d7 df
  by_cases hi : i < 0
  · have HE : Hid (tellerN f i = 210) := by show _ = _; unfold tellerN; rw [if_pos hi]
    clear hs2
    go_enter Tryz.func205, Tryz.ntmps205
    go_wp2
    go_ret
    exact ⟨by rw [HE.out]; rfl, 0, rfl⟩
  · by_cases hx : i < f.2.2.2.1.size
    · have HE : Hid (tellerN f i = 211) := by show _ = _; unfold tellerN; rw [if_neg hi, if_pos hx]
      clear hs2
      go_enter Tryz.func205, Tryz.ntmps205
      go_wp2
      go_ret
      exact ⟨by rw [HE.out]; rfl, 0, rfl⟩
    · have hc := HM.out (i - f.2.2.2.1.size) (by omega) (by omega)
      have HE : Hid (tellerN f i = if mayB f (i - f.2.2.2.1.size) then 213 else 210) := by show _ = _; unfold tellerN; rw [if_neg hi, if_neg hx]
      clear hs2 HM
      cases hb : mayB f (i - f.2.2.2.1.size)
      all_goals
        rw [hb] at hc HE
        clear hb
        go_enter Tryz.func205, Tryz.ntmps205
        go_wp2_with fail
        refine hc.mono ?_
        rintro e w' ⟨rfl, q, rfl⟩
        clear hc
        go_wp2
        go_ret
        exact ⟨by rw [HE.out]; rfl, q, rfl⟩

theorem letter_any (B : Nat) (n : Int) (f : Frm) (i : Int) (w : World) (h : w.heap[B]? = some (.cells (frmCells n f) 248 (0, 0))) (h1 : i < 9223372036854775808) (hs : shortF f = true) :
    Calls Tryz.prog 185 #[.pointer (some ⟨B, 0, none⟩), .int .i64 i] w fun e w' => e = .returned (.int .u8 (letterI f i)) ∧ ∃ q, w' = w.drewN q := by
  have hT := teller_any B n f i w h h1 hs
  have hK : ∀ q, Calls Tryz.prog (tellerN f i) #[.pointer (some ⟨B, 0, none⟩), .int .i64 i] (w.drewN q) fun e w' => e = .returned (.int .u8 (letterI f i)) ∧ ∃ q', w' = w.drewN q' := by
    intro q
    have hq : (w.drewN q).heap[B]? = some (.cells (frmCells n f) 248 (0, 0)) := h
    have hsz : f.2.2.2.1.size ≤ 1000 := by simp only [shortF, Bool.and_eq_true, decide_eq_true_eq] at hs; omega
    unfold tellerN letterI
    by_cases hi : i < 0
    · rw [if_pos hi, if_pos hi]
      exact (noLetter_any _ _ _).mono fun e w' he => ⟨he.1, q, he.2.symm⟩
    · rw [if_neg hi, if_neg hi]
      by_cases hx : i < f.2.2.2.1.size
      · rw [if_pos hx, if_pos hx]
        exact (fixedLetter_any B n f i _ hq (by omega) hx hsz).mono fun e w' he => ⟨he.1, q, he.2.symm⟩
      · rw [if_neg hx, if_neg hx]
        cases hb : mayB f (i - f.2.2.2.1.size)
        · simp only [Bool.false_eq_true, if_false]
          exact (noLetter_any _ _ _).mono fun e w' he => ⟨he.1, q, he.2.symm⟩
        · simp only [if_true]
          have hr : f.2.2.2.2.1.size ≠ 0 := fun e => by unfold mayB at hb; rw [if_pos e] at hb; cases hb
          refine (restLetter_any B n f i _ hq (by omega) h1 hs hr).mono ?_
          rintro e w' ⟨rfl, q', rfl⟩
          exact ⟨rfl, q + q', by rw [World.drewN_drewN]⟩
  have hne : ∀ args w, (callFunc (tellerN f i) args).run Tryz.prog w = .ok (.enter (tellerN f i) args) w := by
    intro args w
    unfold tellerN
    split
    · kernel_rfl
    · split
      · kernel_rfl
      · split
        · kernel_rfl
        · kernel_rfl
  generalize letterI f i = x at *
  generalize tellerN f i = g at *
  clear h hs
  go_enter Tryz.func185, Tryz.ntmps185
  go_wp2_with fail
  refine hT.mono ?_
  rintro e w' ⟨rfl, q, rfl⟩
  clear hT
  go_wp2_with fail
  refine (hK q).mono ?_
  rintro e w' ⟨rfl, q', rfl⟩
  clear hK hne
  go_wp2
  go_ret
  exact ⟨rfl, q', rfl⟩

theorem refT_short : refT.all (fun p => shortF p.2) = true := by decide +kernel
theorem look_short (n : Int) : shortF (lookF refT n).1 = true := by
  cases h : (lookF refT n).2
  · rw [(lookF_false h).1]; decide +kernel
  · exact List.all_eq_true.1 refT_short _ (lookF_true h)

set_option maxHeartbeats 1000000 in
theorem grammarLetter_any (n i : Int) (w : World) (h1 : i < 9223372036854775808) :
    Calls Tryz.prog 195 #[.int .u16 n, .int .i64 i] w fun e w' => e = .returned (.int .u8 (letterI (lookF refT n).1 i)) ∧ Below w.heap.size w w' := by
  have hT := fun w => formText_any n w
  have hR := fun w => readForm_op n w
  have hs := look_short n
  generalize ftxt n = s at *
  generalize (lookF refT n).1 = f at *
  have HL : Hid (∀ B w, _ → _) := fun B w h => letter_any B n f i w h h1 hs
  generalize letterI f i = x at *
  clear hs
  go_enter Tryz.func195, Tryz.ntmps195
  go_wp2_with fail
  refine (hT _).mono ?_
  rintro e w1 ⟨rfl, rfl⟩
  clear hT
  go_wp2_with fail
  refine (hR _).mono ?_
  rintro e w1 ⟨rfl, hb⟩
  clear hR
  have HC : Hid (formV n f = .agg (frmCells n f)) := rfl
  obtain ⟨nm, t, r, fx, rs, mo, pa⟩ := f
  unfold formV
  go_wp2_with fail
  refine (HL.out _ _ (alloc_new w1 _ _)).mono ?_
  rintro e w2 ⟨rfl, q, rfl⟩
  go_wp2
  go_ret
  exact ⟨rfl, bel_drewN (hb.alloc hb.size _) q⟩

end Go.Proofs.YtlcaedibmlidlaaGreat

/-
  What Names of the document's answer returns: a list of its own with all enumerants, in order.
-/
namespace Go.Proofs.YtlcaedibmlidlaaGreat
open Go.RowKit
set_option maxRecDepth 10000
set_option linter.unusedVariables false
set_option linter.unusedSimpArgs false

end Go.Proofs.YtlcaedibmlidlaaGreat

/-
  What Kind, Enum and EnumNamed of the document's answer return, and Kind of the layer grammar, for every argument.
-/
namespace Go.Proofs.YtlcaedibmlidlaaGreat
open Go.RowKit
set_option maxRecDepth 10000
set_option linter.unusedVariables false
set_option linter.unusedSimpArgs false

def isLet (c : Int) (x : Int × Int × ByteArray) : Bool := x.1 == c
def isNum (c n : Int) (x : Int × Int × ByteArray) : Bool := (x.1 == c) && (x.2.1 == n)
/-- The kind of a letter. -/
def kindI (c : Int) : Int := if c = 105 then 1 else if c = 110 then 2 else if c = 115 then 3 else if (namesT.find? (isLet c)).isSome then 4 else 0
/-- The name of a number. -/
def enumS (c n : Int) : ByteArray := match namesT.find? (isNum c n) with | some x => x.2.2 | none => ⟨#[]⟩
def enumB (c n : Int) : Bool := (namesT.find? (isNum c n)).isSome
/-- A letter of the document's list is one that has a text, and the other way. -/
def lettersOk : Bool := (namesT.all fun x => enumT.any fun p => decide (p.1 = x.1)) && (enumT.all fun p => decide (p.2.size ≠ 0) && namesT.any fun x => decide (x.1 = p.1)) && oneEach enumT
theorem letters_ok : lettersOk = true := by decide +kernel
theorem enum_text (c : Int) : ((namesT.find? (isLet c)).isSome = true → (lookT enumT c).size ≠ 0) ∧ ((namesT.find? (isLet c)).isSome = false → lookT enumT c = ⟨#[]⟩) := by
  have h := letters_ok
  simp only [lettersOk, Bool.and_eq_true] at h
  obtain ⟨⟨h1, h2⟩, h3⟩ := h
  constructor
  · intro hs
    obtain ⟨x, hx⟩ := Option.isSome_iff_exists.1 hs
    have hm := List.mem_of_find?_eq_some hx
    have hc : x.1 = c := by have := List.find?_some hx; simpa [isLet] using this
    obtain ⟨p, hp, e⟩ := List.any_eq_true.1 (List.all_eq_true.1 h1 x hm)
    have e := of_decide_eq_true e
    have := List.all_eq_true.1 h2 p hp
    simp only [Bool.and_eq_true, decide_eq_true_eq] at this
    rw [lookT_mem h3 c p.2 (by rw [← hc, ← e]; exact hp)]
    exact this.1
  · intro hs
    refine lookT_none fun k s hm e => ?_
    have := List.all_eq_true.1 h2 (k, s) hm
    simp only [Bool.and_eq_true] at this
    obtain ⟨x, hx, e2⟩ := List.any_eq_true.1 this.2
    have e2 := of_decide_eq_true e2
    have : (namesT.find? (isLet c)).isSome = true := by
      rw [List.find?_isSome]
      exact ⟨x, hx, by simp [isLet, e2, e]⟩
    rw [this] at hs; cases hs

set_option maxHeartbeats 1000000 in
theorem kind_any (c : Int) (w : World) : Calls Tryz.prog 186 #[.int .u8 c] w fun e w' => e = .returned (.int .u8 (kindI c)) ∧ w = w' := by
  by_cases h1 : c = 105
  · subst h1
    go_enter Tryz.func186, Tryz.ntmps186
    go_wp2
    go_ret
    exact ⟨rfl, rfl⟩
  · have h1' : (c == 105) = false := by simpa using h1
    by_cases h2 : c = 110
    · subst h2
      go_enter Tryz.func186, Tryz.ntmps186
      go_wp2
      go_ret
      exact ⟨rfl, rfl⟩
    · have h2' : (c == 110) = false := by simpa using h2
      by_cases h3 : c = 115
      · subst h3
        go_enter Tryz.func186, Tryz.ntmps186
        go_wp2
        go_ret
        exact ⟨rfl, rfl⟩
      · have h3' : (c == 115) = false := by simpa using h3
        have HK : Hid (kindI c = if (namesT.find? (isLet c)).isSome then 4 else 0) := by show _ = _; unfold kindI; rw [if_neg h1, if_neg h2, if_neg h3]
        obtain ⟨t1, t2⟩ := enum_text c
        have hT := fun w => enumText_any c w
        clear h1 h2 h3
        cases hb : (namesT.find? (isLet c)).isSome
        · rw [t2 hb] at hT
          rw [hb] at HK
          clear t1 t2 hb
          go_enter Tryz.func186, Tryz.ntmps186
          go_wp2_with (go_at_call 206; refine (hT _).mono ?_; rintro e w' ⟨rfl, rfl⟩)
          go_ret
          exact ⟨by rw [HK.out]; rfl, rfl⟩
        · have e := bytes_empty _ (t1 hb)
          rw [hb] at HK
          clear t1 t2 hb
          generalize lookT enumT c = s at *
          go_enter Tryz.func186, Tryz.ntmps186
          go_wp2_with (go_at_call 206; refine (hT _).mono ?_; rintro e w' ⟨rfl, rfl⟩)
          go_ret
          exact ⟨by rw [HK.out]; rfl, rfl⟩

end Go.Proofs.YtlcaedibmlidlaaGreat
