/-
  Texts laid together in one: Switch, MathG, Ref03Form, Ref03Of, GrammarTexts, GrammarReadForm.
-/
import Derived.WalkKit
import Derived.Test.YtpggcpnjcalfaaaB01
import Derived.Test.YtpggcpnjcalfaaaB04
import Derived.WalkSpells
import Derived.Test.YtpggcpnjcalfaaaProg
import Derived.WalkMore
import Derived.Lib.OthersKept
/-
  A switch over whole numbers, read off the program's own code: its arms, and what it comes to; a function that is such a switch over texts. No condition but what each lemma names.
-/
namespace Go.Proofs.Ytpggcpnjcalfaaa
open Go.RowKit
set_option linter.unusedVariables false
set_option linter.unusedSimpArgs false

/-- The slots below lo stand as they stood. -/
def Agree (lo : Nat) (a a' : Act) : Prop := a'.tmps.size = a.tmps.size ∧ a'.defers = a.defers ∧ ∀ i, i < lo → a'.tmps.getD i undef = a.tmps.getD i undef
theorem Agree.refl (lo : Nat) (a : Act) : Agree lo a a := ⟨rfl, rfl, fun _ _ => rfl⟩
theorem Agree.trans {lo : Nat} {a b c : Act} (h : Agree lo a b) (k : Agree lo b c) : Agree lo a c := ⟨k.1.trans h.1, k.2.1.trans h.2.1, fun i hi => (k.2.2 i hi).trans (h.2.2 i hi)⟩
theorem getD_put (a : Act) (d i : Nat) (v : Value) : (a.put (some d) v).tmps.getD i undef = if d = i ∧ i < a.tmps.size then v else a.tmps.getD i undef := by
  simp only [Act.put, Array.getD_eq_getD_getElem?, Array.getElem?_setIfInBounds]
  split
  · rename_i h; subst h
    by_cases h : d < a.tmps.size <;> simp [h]
  · rename_i h; simp [h]
theorem Agree.put {lo : Nat} (a : Act) {d : Nat} (h : lo ≤ d) (v : Value) : Agree lo a (a.put (some d) v) :=
  ⟨by simp [Act.put], by simp [Act.put], fun i hi => by rw [getD_put, if_neg (by omega)]⟩

theorem op_value {P : Program} {o : Oper} {a : Act} {w : World} {K : Act → World → Prop} {Q : Exit → Act → World → Prop} {v : Value} (h : (execOp a.eval o).run P w = .ok (.value v) w) (hK : K (a.put o.dst v) w) : o.wp P a w K Q := by
  unfold Oper.wp; rw [h]; exact hK

/-- 'x == k' into t, then into b. -/
def testOf (x lo b : Nat) (kd : IntKind) : List Oper → Option Int
  | [⟨some t, .binOp .eql _ (.tmp x') (.const (.int kd' k)) _, _, _, _, none⟩, ⟨some b', .assign (.tmp t'), _, _, _, none⟩] =>
    if x' = x ∧ kd' = kd ∧ b' = b ∧ t' = t ∧ lo ≤ t ∧ lo ≤ b then some k else none
  | _ => none

theorem wp_test {P : Program} {Q : Exit → Act → World → Prop} {x lo b id : Nat} {kd : IntKind} {k n : Int} {ops : Array Oper} (h : testOf x lo b kd ops.toList = some k) {a : Act} {w : World}
    (hx : a.tmps.getD x undef = .int kd n) (hs : b < a.tmps.size)
    (hK : ∀ a', Agree lo a a' → a'.tmps.getD b undef = .bool (n == k) → Q .normal a' w) (hts : ∀ t o, ops.toList.head? = some o → o.dst = some t → t < a.tmps.size) : (Code.region id ops false).wp P Q a w := by
  refine wp_region_list ?_
  generalize hl : ops.toList = l at *
  unfold testOf at h
  split at h
  case h_2 => cases h
  rename_i t e1 x' kd' k' e2 e3 e4 e5 b' t' e6 e7 e8
  split at h
  case isFalse => cases h
  rename_i hh
  obtain ⟨rfl, rfl, rfl, rfl, h1, h2⟩ := hh
  cases h
  have ht : t' < a.tmps.size := hts t' _ rfl rfl
  refine wpList_plain rfl fun K hK1 => ?_
  have ev : a.tmps[x']?.getD undef = .int kd' n := by rw [← Array.getD_eq_getD_getElem?]; exact hx
  refine op_value (v := .bool (n == k)) (by simp [execOp, go_sem, ev]) ?_
  refine hK1 _ _ (wpList_plain rfl fun K2 hK2 => ?_)
  have ev2 : (a.put (some t') (.bool (n == k))).tmps[t']?.getD undef = .bool (n == k) := by
    rw [← Array.getD_eq_getD_getElem?, getD_put, if_pos ⟨rfl, ht⟩]
  generalize ha2 : a.put (some t') (.bool (n == k)) = a2 at *
  refine op_value (v := .bool (n == k)) (by simp [execOp, go_sem, ev2]) ?_
  subst ha2
  refine hK2 _ _ (hK _ ((Agree.put a h1 _).trans (Agree.put _ h2 _)) ?_)
  rw [getD_put, if_pos ⟨rfl, by simpa [Act.put] using hs⟩]

/-- The arms of a switch, in order. -/
def armsOf (x lo top : Nat) (kd : IntKind) : Nat → Code → Option (List (Int × Code))
  | 0, _ => none
  | fuel + 1, c =>
    match c with
    | .skip => some []
    | .seq (.region _ ops false) (.cond (.tmp b) arm rest) =>
      match testOf x lo b kd ops.toList, armsOf x lo top kd fuel rest with
      | some k, some l => if b < top ∧ (ops.toList.all fun o => match o.dst with | some t => decide (t < top) | none => true) = true then some ((k, arm) :: l) else none
      | _, _ => none
    | _ => none

theorem wp_arms {P : Program} {Q : Exit → Act → World → Prop} {x lo top : Nat} {kd : IntKind} {n : Int} (hlo : x < lo) :
    ∀ (fuel : Nat) (c : Code) (l : List (Int × Code)) (a : Act) (w : World), armsOf x lo top kd fuel c = some l → a.tmps.size = top → a.tmps.getD x undef = .int kd n →
      (∀ a' k d, Agree lo a a' → (k, d) ∈ l → n = k → d.wp P Q a' w) → (∀ a', Agree lo a a' → (∀ k d, (k, d) ∈ l → n ≠ k) → Q .normal a' w) → c.wp P Q a w := by
  intro fuel
  induction fuel with
  | zero => intro c l a w h; cases h
  | succ fuel ih =>
    intro c l a w h hs hx harm hno
    rw [armsOf.eq_def] at h
    dsimp only at h
    split at h
    · cases h
      exact wp_skip (hno a (Agree.refl _ _) (fun _ _ hm => by cases hm))
    · rename_i id ops b arm rest
      split at h
      case h_2 => cases h
      rename_i k l' hk hl'
      split at h
      case isFalse => cases h
      rename_i hb
      cases h
      refine wp_seq (wp_test (lo := lo) hk hx (by rw [hs]; exact hb.1) (fun a' hag hb' => ?_) (fun t o ho ht => ?_))
      · refine wp_cond_split (t := n == k) hb' (fun ht => ?_) (fun hf => ?_)
        · exact harm a' k arm hag List.mem_cons_self (by simpa using ht)
        · refine ih rest l' a' w hl' (hag.1.trans hs) ((hag.2.2 x hlo).trans hx) (fun a2 k2 d2 h2 hm e => harm a2 k2 d2 (hag.trans h2) (List.mem_cons_of_mem _ hm) e) (fun a2 h2 hn => hno a2 (hag.trans h2) (fun k2 d2 hm => ?_))
          rcases List.mem_cons.1 hm with e | hm
          · cases e; simpa using hf
          · exact hn k2 d2 hm
      · have hm : o ∈ ops.toList := List.mem_of_mem_head? ho
        have := List.all_eq_true.1 hb.2 o hm
        rw [ht] at this
        simp only [decide_eq_true_eq] at this
        rw [hs]; exact this
    · cases h

/-! ### a switch over texts -/

/-- The text that an arm answers. -/
def armText (r : Nat) : Code → Option ByteArray
  | .seq (.region _ ops false) .ret =>
    match ops.toList with
    | [⟨some r', .assign (.const (.string s)), _, _, _, none⟩] => if r' = r then some s else none
    | _ => none
  | _ => none
theorem wp_armText {P : Program} {Q : Exit → Act → World → Prop} {r : Nat} {c : Code} {s : ByteArray} (h : armText r c = some s) {a : Act} {w : World} (hQ : Q .ret (a.put (some r) (.string s)) w) : c.wp P Q a w := by
  unfold armText at h
  split at h
  case h_2 => cases h
  rename_i id ops
  split at h
  case h_2 => cases h
  rename_i r' s' e1 e2 e3 hl
  split at h
  case isFalse => cases h
  rename_i e
  subst e
  cases h
  refine wp_seq (wp_region_list ?_)
  rw [hl]
  refine wpList_plain rfl fun K hK => ?_
  refine op_value (v := .string s) (by simp [execOp, go_sem]) ?_
  exact hK _ _ (wpList_nil (wp_ret hQ))

/-- A list of arms, each a text. -/
def textsOf (r : Nat) : List (Int × Code) → Option (List (Int × ByteArray))
  | [] => some []
  | (k, c) :: l => match armText r c, textsOf r l with
    | some s, some t => some ((k, s) :: t)
    | _, _ => none
theorem textsOf_mem {r : Nat} : ∀ {l : List (Int × Code)} {t : List (Int × ByteArray)}, textsOf r l = some t → ∀ k c, (k, c) ∈ l → ∃ s, armText r c = some s ∧ (k, s) ∈ t
  | [], _, _, _, _, hm => by cases hm
  | (k', c') :: l, t, h, k, c, hm => by
    rw [textsOf] at h
    split at h
    case h_2 => cases h
    rename_i s t' h1 h2
    cases h
    rcases List.mem_cons.1 hm with e | hm
    · cases e; exact ⟨s, h1, List.mem_cons_self⟩
    · obtain ⟨s2, h3, h4⟩ := textsOf_mem h2 k c hm
      exact ⟨s2, h3, List.mem_cons_of_mem _ h4⟩
theorem textsOf_keys {r : Nat} : ∀ {l : List (Int × Code)} {t : List (Int × ByteArray)}, textsOf r l = some t → ∀ k s, (k, s) ∈ t → ∃ c, (k, c) ∈ l
  | [], _, h, _, _, hm => by rw [textsOf] at h; cases h; cases hm
  | (k', c') :: l, t, h, k, s, hm => by
    rw [textsOf] at h
    split at h
    case h_2 => cases h
    rename_i s' t' h1 h2
    cases h
    rcases List.mem_cons.1 hm with e | hm
    · cases e; exact ⟨c', List.mem_cons_self⟩
    · obtain ⟨c2, h3⟩ := textsOf_keys h2 k s hm
      exact ⟨c2, List.mem_cons_of_mem _ h3⟩

/-- A function's body that is such a switch. -/
def textSwitch (top : Nat) (kd : IntKind) : Code → Option (List (Int × ByteArray))
  | .seq (.region _ o0 false) (.seq (.seq (.region _ o1 false) (.block _ sw)) c) =>
    match o0.toList, o1.toList, armText 2 c with
    | [⟨some 2, .assign (.const (.string _)), _, _, _, none⟩], [⟨some 3, .move (.tmp 0), _, _, _, none⟩], some s =>
      if s.data = #[] then match armsOf 3 4 top kd 200 sw with
        | some l => textsOf 2 l
        | none => none
      else none
    | _, _, _ => none
  | _ => none

/-- The text of a number. -/
def lookT : List (Int × ByteArray) → Int → ByteArray
  | [], _ => ⟨#[]⟩
  | (k, s) :: l, n => if n = k then s else lookT l n
/-- No number has two texts. -/
def oneEach (l : List (Int × ByteArray)) : Bool := match l with
  | [] => true
  | (k, _) :: l => (l.all fun p => decide (p.1 ≠ k)) && oneEach l
theorem lookT_mem : ∀ {l : List (Int × ByteArray)}, oneEach l = true → ∀ k s, (k, s) ∈ l → lookT l k = s
  | [], _, _, _, h => by cases h
  | (k', s') :: l, h1, k, s, hm => by
    rw [oneEach, Bool.and_eq_true] at h1
    rcases List.mem_cons.1 hm with e | hm
    · cases e; simp [lookT]
    · have := List.all_eq_true.1 h1.1 (k, s) hm
      simp only [ne_eq, decide_not, Bool.not_eq_true', decide_eq_false_iff_not] at this
      rw [lookT, if_neg this]
      exact lookT_mem h1.2 k s hm
theorem lookT_none : ∀ {l : List (Int × ByteArray)} {n : Int}, (∀ k s, (k, s) ∈ l → n ≠ k) → lookT l n = ⟨#[]⟩
  | [], _, _ => rfl
  | (k', s') :: l, n, h => by
    rw [lookT, if_neg (h k' s' List.mem_cons_self)]
    exact lookT_none fun k s hm => h k s (List.mem_cons_of_mem _ hm)

theorem calls_textSwitch {P : Program} {f top : Nat} {fn : Func} {c : Code} {kd : IntKind} {t : List (Int × ByteArray)} (hf : P.funcs[f]? = some fn) (hb : fn.body = some c) (hn : fn.ntmps = top) (h4 : 4 ≤ top) (hr : fn.results = #[.tmp 2])
    (ht : textSwitch top kd c = some t) (h1 : oneEach t = true) (n : Int) (w : World) :
    Calls P f #[.int kd n] w fun e w' => e = .returned (.string (lookT t n)) ∧ w = w' := by
  refine calls_of_wp hf hb ?_
  unfold textSwitch at ht
  split at ht
  case h_2 => cases ht
  rename_i i0 o0 i1 o1 i2 sw cc
  split at ht
  case h_2 => cases ht
  rename_i s0 y1 y2 y3 z1 z2 z3 s e0 e1 e2
  split at ht
  case isFalse => cases ht
  rename_i hs
  split at ht
  case h_2 => cases ht
  rename_i l hl
  obtain ⟨sd⟩ := s
  simp only at hs
  subst hs
  generalize ha : ({ tmps := #[.int kd n] ++ Array.replicate (fn.ntmps - (#[Value.int kd n] : Array Value).size) undef, defers := [] } : Act) = a
  have hsz : a.tmps.size = top := by rw [← ha]; simp [hn]; omega
  have ha0 : a.tmps.getD 0 undef = .int kd n := by rw [← ha]; rw [Array.getD_eq_getD_getElem?, Array.getElem?_append_left (by simp)]; rfl
  have had : a.defers = [] := by rw [← ha]
  clear ha
  refine wp_seq (wp_region_list ?_)
  rw [e0]
  refine wpList_plain rfl fun K hK => ?_
  refine op_value (v := .string s0) (by simp [execOp, go_sem]) ?_
  refine hK _ _ (wpList_nil ?_)
  refine wp_seq (wp_seq (wp_region_list ?_))
  rw [e1]
  refine wpList_plain rfl fun K2 hK2 => ?_
  have ev : (a.put (some 2) (.string s0)).tmps[0]?.getD undef = .int kd n := by
    rw [← Array.getD_eq_getD_getElem?, getD_put, if_neg (by omega), ha0]
  generalize ha2 : a.put (some 2) (.string s0) = a2 at *
  refine op_value (v := .int kd n) (by simp [execOp, go_sem, ev]) ?_
  subst ha2
  refine hK2 _ _ (wpList_nil (wp_block ?_))
  generalize hA : (a.put (some 2) (.string s0)).put (some 3) (.int kd n) = A
  have hAs : A.tmps.size = top := by rw [← hA]; simp [Act.put, hsz]
  have hAx : A.tmps.getD 3 undef = .int kd n := by rw [← hA, getD_put, if_pos ⟨rfl, by simp [Act.put, hsz]; omega⟩]
  have hAd : A.defers = [] := by rw [← hA]; simp [Act.put, had]
  clear hA
  have fin : ∀ (A' : Act) (s : ByteArray), Agree 4 A A' → lookT t n = s → bodyPost P fn (fun e w' => e = .returned (.string (lookT t n)) ∧ w = w') .ret (A'.put (some 2) (.string s)) w := fun A' s hag e =>
    ⟨by simp [Act.put, hag.2.1, hAd], .string s, by rw [results_tmp hr, getD_put, if_pos ⟨rfl, by rw [hag.1, hAs]; omega⟩], by rw [e], rfl⟩
  refine wp_arms (x := 3) (lo := 4) (n := n) (by omega) 200 sw l A w hl hAs hAx (fun A' k d hag hm e => ?_) (fun A' hag hno => ?_)
  · obtain ⟨s, h3, h5⟩ := textsOf_mem ht k d hm
    exact wp_armText h3 (fin A' s hag (by rw [e]; exact lookT_mem h1 k s h5))
  · exact wp_armText e2 (fin A' _ hag (lookT_none fun k s hm => by obtain ⟨c, hc⟩ := textsOf_keys ht k s hm; exact hno k c hc))

end Go.Proofs.Ytpggcpnjcalfaaa

/-
  How the text of a form is read, sign by sign: plain mathematics, and that each text of the table reads as the form of the document's table.
-/
namespace Go.Proofs.Ytpggcpnjcalfaaa
open Go.RowKit

/-- The sign at a place. -/
def sgn (s : ByteArray) (k : Nat) : Int := ((s.data.toList.getD k 0).toNat : Int)

theorem sgn_at (s : ByteArray) (k : Nat) (h : k < s.size) : ((s[k]'h).toNat : Int) = sgn s k := by
  have h' : k < s.data.toList.length := by simpa using h
  unfold sgn
  rw [List.getD_eq_getElem?_getD, List.getElem?_eq_getElem h']
  rfl

/-- What has been read: which column, where it began, and the form so far. -/
abbrev RdSt := Int × Int × Frm

def rdStep (s : ByteArray) (k : Nat) (c : Int) (x : RdSt) : RdSt :=
  match x with
  | (col, fr, nm, t, r, fx, rs, mo, pa) =>
    if c = 47 then (col + 1, k + 1, nm, t, r, fx, rs, mo, pa)
    else if col = 0 then (col, fr, s.extract fr.toNat (k + 1), t, r, fx, rs, mo, pa)
    else if col = 1 then (col, fr, nm, t || (c == 116), r || (c == 114), fx, rs, mo, pa)
    else if col = 2 then (col, fr, nm, t, r, s.extract fr.toNat (k + 1), rs, mo, pa)
    else if col = 3 then (col, fr, nm, t, r, fx, s.extract fr.toNat (k + 1), mo, pa)
    else if col = 4 then (col, fr, nm, t, r, fx, rs, 10 * mo + (c - 48), pa)
    else (col, fr, nm, t, r, fx, rs, mo, c - 48)

def rdTo (s : ByteArray) : Nat → RdSt
  | 0 => (0, 0, ⟨#[]⟩, false, false, ⟨#[]⟩, ⟨#[]⟩, 0, 0)
  | k + 1 => rdStep s k (sgn s k) (rdTo s k)

/-- A state, and a sign, that the reading of a good text meets. -/
def rdOk (k : Nat) (c : Int) (x : RdSt) : Bool :=
  decide (c < 128 ∧ 0 ≤ c ∧ 0 ≤ x.1 ∧ x.1 ≤ 5 ∧ 0 ≤ x.2.1 ∧ x.2.1 ≤ k ∧ 0 ≤ x.2.2.2.2.2.2.2.1 ∧ x.2.2.2.2.2.2.2.1 ≤ 1000 ∧ (x.1 = 4 → c ≠ 47 → 48 ≤ c) ∧ (x.1 = 5 → c ≠ 47 → 48 ≤ c))
def goodT (s : ByteArray) : Bool := (List.range s.size).all fun k => rdOk k (sgn s k) (rdTo s k)
theorem goodT_at {s : ByteArray} (h : goodT s = true) {k : Nat} (hk : k < s.size) : rdOk k (sgn s k) (rdTo s k) = true := List.all_eq_true.1 h k (List.mem_range.2 hk)

/-- The form that a text tells. -/
def rdF (s : ByteArray) : Frm := (rdTo s s.size).2.2

/-- The text of an operation's form. -/
def ftxt (n : Int) : ByteArray := if n < 41 then lookT namingT n else if n < 124 then lookT makingT n else if n < 164 then lookT countingT n else if n < 194 then lookT comparingT n else if n < 245 then lookT bitT n else lookT flowT n

end Go.Proofs.Ytpggcpnjcalfaaa

/-
  What form of the document's answer returns: a form of just these fields.
-/
namespace Go.Proofs.Ytpggcpnjcalfaaa
open Go.RowKit
set_option maxRecDepth 10000

/-- A form as a value. -/
def formV (op : Int) (f : Frm) : Value := .agg #[.int .u16 op, .string f.1, .bool f.2.1, .bool f.2.2.1, .string f.2.2.2.1, .string f.2.2.2.2.1, .int .i64 f.2.2.2.2.2.1, .int .u8 f.2.2.2.2.2.2]
/-- No form. -/
def noFrm : Frm := (⟨#[]⟩, false, false, ⟨#[]⟩, ⟨#[]⟩, 0, 0)

theorem form_any (n : Int) (nm : ByteArray) (t r : Bool) (fx rs : ByteArray) (mo pa : Int) (w : World) :
    Calls Try.prog 40 #[.int .u16 n, .string nm, .bool t, .bool r, .string fx, .string rs, .int .i64 mo, .int .u8 pa] w fun e w' => e = .returned (.agg #[.int .u16 n, .string nm, .bool t, .bool r, .string fx, .string rs, .int .i64 mo, .int .u8 pa]) ∧ Below w.heap.size w w' := by
  go_enter Try.func40, Try.ntmps40
  go_wp2
  go_goals
  exact bodyPost_ret (v := .agg #[.int .u16 n, .string nm, .bool t, .bool r, .string fx, .string rs, .int .i64 mo, .int .u8 pa]) (by simp [results, Try.results40, go_sem]) rfl ⟨rfl, (Below.refl _ _).alloc (Nat.le_refl _) _⟩

end Go.Proofs.Ytpggcpnjcalfaaa

/-
  What Of of the document's answer returns, for every operation: the form of its table, or none.
-/
namespace Go.Proofs.Ytpggcpnjcalfaaa
open Go.RowKit
set_option maxRecDepth 10000
set_option linter.unusedVariables false
set_option linter.unusedSimpArgs false

theorem one_block {w : World} {B T : Nat} {cs : Array Value} (h : w.heap[B]? = some (.cells cs T (0, 0))) : (∀ i, w.cell? ⟨B, i, none⟩ = cs[i]?) ∧ (∀ i, w.frozen? ⟨B, i, none⟩ = false) := by
  refine ⟨fun i => ?_, fun i => ?_⟩
  · simp [World.cell?, h]
  · simp [World.frozen?, h]
theorem alloc_new (w : World) (cs : Array Value) (T : Nat) : (w.alloc (.cells cs T)).heap[w.heap.size]? = some (.cells cs T (0, 0)) := heap_alloc_new w _

theorem eight_set {w : World} {B T : Nat} {z0 z1 z2 z3 z4 z5 z6 z7 : Value} (h : w.heap[B]? = some (.cells #[z0, z1, z2, z3, z4, z5, z6, z7] T (0, 0))) (u0 u1 u2 u3 u4 u5 u6 u7 : Value) :
    ((((((((w.setCell ⟨B, 0, none⟩ u0).setCell ⟨B, 1, none⟩ u1).setCell ⟨B, 2, none⟩ u2).setCell ⟨B, 3, none⟩ u3).setCell ⟨B, 4, none⟩ u4).setCell ⟨B, 5, none⟩ u5).setCell ⟨B, 6, none⟩ u6).setCell ⟨B, 7, none⟩ u7).heap[B]? = some (.cells #[u0, u1, u2, u3, u4, u5, u6, u7] T (0, 0)) := by
  simp only [World.setCell, Array.getElem?_modify, h]; simp
theorem eight_below (w : World) (B : Nat) (u0 u1 u2 u3 u4 u5 u6 u7 : Value) :
    Below B w ((((((((w.setCell ⟨B, 0, none⟩ u0).setCell ⟨B, 1, none⟩ u1).setCell ⟨B, 2, none⟩ u2).setCell ⟨B, 3, none⟩ u3).setCell ⟨B, 4, none⟩ u4).setCell ⟨B, 5, none⟩ u5).setCell ⟨B, 6, none⟩ u6).setCell ⟨B, 7, none⟩ u7) :=
  ((((((((Below.refl B w).setCell (Nat.le_refl _) _).setCell (Nat.le_refl _) _).setCell (Nat.le_refl _) _).setCell (Nat.le_refl _) _).setCell (Nat.le_refl _) _).setCell (Nat.le_refl _) _).setCell (Nat.le_refl _) _).setCell (Nat.le_refl _) _

/-- A form as its cells. -/
def frmCells (n : Int) (f : Frm) : Array Value := #[.int .u16 n, .string f.1, .bool f.2.1, .bool f.2.2.1, .string f.2.2.2.1, .string f.2.2.2.2.1, .int .i64 f.2.2.2.2.2.1, .int .u8 f.2.2.2.2.2.2]

/-- A form in a block: its cells. -/
theorem frm_cells {w : World} {B T : Nat} {n : Int} {f : Frm} (h : w.heap[B]? = some (.cells (frmCells n f) T (0, 0))) :
    w.cell? ⟨B, 0, none⟩ = some (.int .u16 n) ∧ w.cell? ⟨B, 1, none⟩ = some (.string f.1) ∧ w.cell? ⟨B, 2, none⟩ = some (.bool f.2.1) ∧ w.cell? ⟨B, 3, none⟩ = some (.bool f.2.2.1) ∧ w.cell? ⟨B, 4, none⟩ = some (.string f.2.2.2.1) ∧ w.cell? ⟨B, 5, none⟩ = some (.string f.2.2.2.2.1) ∧ w.cell? ⟨B, 6, none⟩ = some (.int .i64 f.2.2.2.2.2.1) ∧ w.cell? ⟨B, 7, none⟩ = some (.int .u8 f.2.2.2.2.2.2) ∧ ∀ i, w.frozen? ⟨B, i, none⟩ = false := by
  obtain ⟨hc, hf⟩ := one_block h
  exact ⟨hc 0, hc 1, hc 2, hc 3, hc 4, hc 5, hc 6, hc 7, hf⟩

theorem store_frm (w : World) (B : Nat) (z0 z1 z2 z3 z4 z5 z6 z7 : Value) (h : w.heap[B]? = some (.cells #[z0, z1, z2, z3, z4, z5, z6, z7] 59 (0, 0))) (a : Act) (r : Nat) (n : Int) (f : Frm) (h2 : a.tmps[2]?.getD undef = .pointer (some ⟨B, 0, none⟩)) (hr : a.tmps[r]?.getD undef = formV n f) (ty : TypeId) (pos : String) (af : Array Edge) :
    ∃ w', (execOp a.eval ⟨none, .store 59 (.tmp 2) (.tmp r), ty, pos, af, none⟩).run Try.prog w = .ok .skip w' ∧ w'.heap[B]? = some (.cells (frmCells n f) 59 (0, 0)) ∧ Below B w w' := by
  obtain ⟨hc, hf⟩ := one_block h
  have c0 := hc 0
  have c1 := hc 1
  have c2 := hc 2
  have c3 := hc 3
  have c4 := hc 4
  have c5 := hc 5
  have c6 := hc 6
  have c7 := hc 7
  unfold formV at hr
  refine ⟨_, ?_, eight_set h _ _ _ _ _ _ _ _, eight_below _ _ _ _ _ _ _ _ _ _⟩
  clear h
  simp [execOp, go_sem, h2, hr, hf, c0, c1, c2, c3, c4, c5, c6, c7]

theorem op_skip {P : Program} {o : Oper} {a : Act} {w w' : World} {K : Act → World → Prop} {Q : Exit → Act → World → Prop} (h : (execOp a.eval o).run P w = .ok .skip w') (hK : K (a.put o.dst undef) w') : o.wp P a w K Q := by
  unfold Oper.wp; rw [h]; exact hK
theorem op_new {P : Program} {o : Oper} {a : Act} {w w' : World} {K : Act → World → Prop} {Q : Exit → Act → World → Prop} {v : Value} (h : (execOp a.eval o).run P w = .ok (.value v) w') (hK : K (a.put o.dst v) w') : o.wp P a w K Q := by
  unfold Oper.wp; rw [h]; exact hK
theorem op_enter {P : Program} {o : Oper} {a : Act} {w : World} {K : Act → World → Prop} {Q : Exit → Act → World → Prop} {f : FuncId} {args : Array Value} (h : (execOp a.eval o).run P w = .ok (.enter f args) w) {v : Value} {R : World → Prop} (hc : Calls P f args w fun e w' => e = .returned v ∧ R w')
    (hK : ∀ w', R w' → K (a.put o.dst v) w') : o.wp P a w K Q := by
  unfold Oper.wp; rw [h]
  refine hc.mono ?_
  rintro e w' ⟨rfl, hr⟩
  exact hK w' hr

/-- The form that an arm answers. -/
def armForm (g T top : Nat) : Code → Option Frm
  | .seq (.region _ ops false) .ret =>
    match ops.toList with
    | [⟨some m, .move (.tmp 0), _, _, _, none⟩, ⟨some r, .call ⟨.value (.func g'), args, _⟩, _, _, _, none⟩, ⟨none, .store T' (.tmp 2) (.tmp r'), _, _, _, none⟩, ⟨some 3, .assign (.const (.bool true)), _, _, _, none⟩] =>
      match args.toList with
      | [.tmp m', .const (.string nm), .const (.bool t), .const (.bool rr), .const (.string fx), .const (.string rs), .const (.int .i64 mo), .const (.int .u8 pa)] =>
        if g' = g ∧ T' = T ∧ m' = m ∧ r' = r ∧ 5 ≤ m ∧ 5 ≤ r ∧ m < top ∧ r < top ∧ m ≠ r then some (nm, t, rr, fx, rs, mo, pa) else none
      | _ => none
    | _ => none
  | _ => none

theorem wp_armForm {top : Nat} {c : Code} {f : Frm} (h : armForm 40 59 top c = some f) {a : Act} {w : World} {B : Nat} {n : Int} {fn : Func} {R : Ending → World → Prop} (hfn : fn.results = #[.cell 2 59, .tmp 3]) (h5 : 5 ≤ top)
    (hs : a.tmps.size = top) (hd : a.defers = []) (h0 : a.tmps.getD 0 undef = .int .u16 n) (h2 : a.tmps.getD 2 undef = .pointer (some ⟨B, 0, none⟩)) {z0 z1 z2 z3 z4 z5 z6 z7 : Value} (hB : w.heap[B]? = some (.cells #[z0, z1, z2, z3, z4, z5, z6, z7] 59 (0, 0)))
    (hR : ∀ w', Below B w w' → R (.returned (.tuple #[formV n f, .bool true])) w') {Q : Exit → Act → World → Prop} (hQ : ∀ a' w', bodyPost Try.prog fn R .ret a' w' → Q .ret a' w') : c.wp Try.prog Q a w := by
  unfold armForm at h
  split at h
  case h_2 => cases h
  rename_i id ops
  split at h
  case h_2 => cases h
  rename_i m y1 y2 y3 r g' args y4 y5 y6 y7 T' r' y8 y9 y10 y11 y12 y13 hl
  split at h
  case h_2 => cases h
  rename_i m' nm t rr fx rs mo pa hargs
  split at h
  case isFalse => cases h
  rename_i hh
  obtain ⟨rfl, rfl, rfl, rfl, k1, k2, k3, k4, k5⟩ := hh
  have q1 : ∀ i : Nat, i < 5 → ∀ s : Nat, ¬ (m' = i ∧ i < s) := fun i hi s h => absurd (Nat.lt_of_lt_of_le hi k1) (by rw [h.1]; exact Nat.lt_irrefl _)
  have q2 : ∀ i : Nat, i < 5 → ∀ s : Nat, ¬ (r' = i ∧ i < s) := fun i hi s h => absurd (Nat.lt_of_lt_of_le hi k2) (by rw [h.1]; exact Nat.lt_irrefl _)
  cases h
  obtain ⟨args⟩ := args
  simp only at hargs
  subst hargs
  refine wp_seq (wp_region_list ?_)
  rw [hl]
  have hBs : B < w.heap.size := (Array.getElem?_eq_some_iff.1 hB).1
  have e0 : a.tmps[0]?.getD undef = .int .u16 n := by rw [← Array.getD_eq_getD_getElem?]; exact h0
  refine wpList_plain rfl fun K hK => op_value (v := .int .u16 n) (by simp [execOp, go_sem, e0]) (hK _ _ ?_)
  clear hK K
  generalize ha1 : a.put (some m') (.int .u16 n) = a1
  have e1 : a1.tmps[m']?.getD undef = .int .u16 n := by rw [← Array.getD_eq_getD_getElem?, ← ha1, getD_put, if_pos ⟨rfl, by rw [hs]; exact k3⟩]
  refine wpList_plain rfl fun K hK => op_enter (f := 40) (by simp [execOp, go_sem, e1]) (form_any n nm t rr fx rs mo pa w) (fun w1 hb1 => hK _ _ ?_)
  clear hK K
  have hB1 := (hb1.block B hBs).trans hB
  generalize ha2 : a1.put (some r') _ = a2
  have e2 : a2.tmps[2]?.getD undef = .pointer (some ⟨B, 0, none⟩) := by rw [← Array.getD_eq_getD_getElem?, ← ha2, getD_put, if_neg (q2 2 (by decide) _), ← ha1, getD_put, if_neg (q1 2 (by decide) _)]; exact h2
  have e3 : a2.tmps[r']?.getD undef = formV n (nm, t, rr, fx, rs, mo, pa) := by rw [← Array.getD_eq_getD_getElem?, ← ha2, getD_put, if_pos ⟨rfl, by rw [← ha1]; simp [Act.put]; rw [hs]; exact k4⟩]; rfl
  obtain ⟨w2, hrun, hB2, hb2⟩ := store_frm w1 B z0 z1 z2 z3 z4 z5 z6 z7 hB1 a2 r' n (nm, t, rr, fx, rs, mo, pa) e2 e3 y8 y9 y10
  refine wpList_plain rfl fun K hK => op_skip hrun (hK _ _ ?_)
  clear hK K
  refine wpList_plain rfl fun K hK => op_value (v := .bool true) (by simp [execOp, go_sem]) (hK _ _ ?_)
  clear hK K
  refine wpList_nil (wp_ret (hQ _ _ ?_))
  have sz : (a2.put none undef).tmps.size = top := by rw [← ha2, ← ha1]; simp [Act.put, hs]
  refine ⟨by rw [← ha2, ← ha1]; simp [Act.put, hd], .tuple #[formV n (nm, t, rr, fx, rs, mo, pa), .bool true], ?_, hR w2 ((hb1.mono (Nat.le_of_lt hBs)).trans hb2)⟩
  generalize ha3 : (a2.put none undef).put (some 3) (.bool true) = a3
  have e4 : a3.tmps[2]?.getD undef = .pointer (some ⟨B, 0, none⟩) := by rw [← Array.getD_eq_getD_getElem?, ← ha3, getD_put, if_neg (by omega), Array.getD_eq_getD_getElem?]; exact e2
  have e5 : a3.tmps[3]?.getD undef = .bool true := by rw [← Array.getD_eq_getD_getElem?, ← ha3, getD_put, if_pos ⟨rfl, by rw [sz]; omega⟩]
  obtain ⟨hc, hf⟩ := one_block hB2
  have c0 := hc 0
  have c1 := hc 1
  have c2 := hc 2
  have c3 := hc 3
  have c4 := hc 4
  have c5 := hc 5
  have c6 := hc 6
  have c7 := hc 7
  unfold frmCells at c0 c1 c2 c3 c4 c5 c6 c7
  simp [results, hfn, go_sem, e4, e5, formV, c0, c1, c2, c3, c4, c5, c6, c7]

/-- A list of arms, each a form. -/
def formsOf (g T top : Nat) : List (Int × Code) → Option (List (Int × Frm))
  | [] => some []
  | (k, c) :: l => match armForm g T top c, formsOf g T top l with
    | some s, some t => some ((k, s) :: t)
    | _, _ => none
theorem formsOf_mem {g T top : Nat} : ∀ {l : List (Int × Code)} {t : List (Int × Frm)}, formsOf g T top l = some t → ∀ k c, (k, c) ∈ l → ∃ s, armForm g T top c = some s ∧ (k, s) ∈ t
  | [], _, _, _, _, hm => by cases hm
  | (k', c') :: l, t, h, k, c, hm => by
    rw [formsOf] at h
    split at h
    case h_2 => cases h
    rename_i s t' h1 h2
    cases h
    rcases List.mem_cons.1 hm with e | hm
    · cases e; exact ⟨s, h1, List.mem_cons_self⟩
    · obtain ⟨s2, h3, h4⟩ := formsOf_mem h2 k c hm
      exact ⟨s2, h3, List.mem_cons_of_mem _ h4⟩
theorem formsOf_keys {g T top : Nat} : ∀ {l : List (Int × Code)} {t : List (Int × Frm)}, formsOf g T top l = some t → ∀ k s, (k, s) ∈ t → ∃ c, (k, c) ∈ l
  | [], _, h, _, _, hm => by rw [formsOf] at h; cases h; cases hm
  | (k', c') :: l, t, h, k, s, hm => by
    rw [formsOf] at h
    split at h
    case h_2 => cases h
    rename_i s' t' h1 h2
    cases h
    rcases List.mem_cons.1 hm with e | hm
    · cases e; exact ⟨c', List.mem_cons_self⟩
    · obtain ⟨c2, h3⟩ := formsOf_keys h2 k s hm
      exact ⟨c2, List.mem_cons_of_mem _ h3⟩

/-- The form of an operation, and whether there is one. -/
def lookF : List (Int × Frm) → Int → Frm × Bool
  | [], _ => (noFrm, false)
  | (k, s) :: l, n => if n = k then (s, true) else lookF l n
def oneEachF (l : List (Int × Frm)) : Bool := match l with
  | [] => true
  | (k, _) :: l => (l.all fun p => decide (p.1 ≠ k)) && oneEachF l
theorem lookF_mem : ∀ {l : List (Int × Frm)}, oneEachF l = true → ∀ k s, (k, s) ∈ l → lookF l k = (s, true)
  | [], _, _, _, h => by cases h
  | (k', s') :: l, h1, k, s, hm => by
    rw [oneEachF, Bool.and_eq_true] at h1
    rcases List.mem_cons.1 hm with e | hm
    · cases e; simp [lookF]
    · have := List.all_eq_true.1 h1.1 (k, s) hm
      simp only [ne_eq, decide_not, Bool.not_eq_true', decide_eq_false_iff_not] at this
      rw [lookF, if_neg this]
      exact lookF_mem h1.2 k s hm
theorem lookF_none : ∀ {l : List (Int × Frm)} {n : Int}, (∀ k s, (k, s) ∈ l → n ≠ k) → lookF l n = (noFrm, false)
  | [], _, _ => rfl
  | (k', s') :: l, n, h => by
    rw [lookF, if_neg (h k' s' List.mem_cons_self)]
    exact lookF_none fun k s hm => h k s (List.mem_cons_of_mem _ hm)

/-- What is answered of an operation: its number and form, or zeros. -/
def ofV (n : Int) : Value := if (lookF refT n).2 then formV n (lookF refT n).1 else formV 0 noFrm

theorem wp_noForm {top m : Nat} {a : Act} {w : World} {B : Nat} {fn : Func} {R : Ending → World → Prop} {y1 y2 y3 y4 y5 y6 y7 y8 y9 id} (hfn : fn.results = #[.cell 2 59, .tmp 3]) (h5 : 5 ≤ top) (hm : m < top) (hm5 : 5 ≤ m)
    (hs : a.tmps.size = top) (hd : a.defers = []) (h2 : a.tmps.getD 2 undef = .pointer (some ⟨B, 0, none⟩)) {z0 z1 z2 z3 z4 z5 z6 z7 : Value} (hB : w.heap[B]? = some (.cells #[z0, z1, z2, z3, z4, z5, z6, z7] 59 (0, 0)))
    (hR : ∀ w', Below B w w' → R (.returned (.tuple #[formV 0 noFrm, .bool false])) w') :
    (Code.seq (.region id #[⟨some m, .build 59 #[], y1, y2, y3, none⟩, ⟨none, .store 59 (.tmp 2) (.tmp m), y4, y5, y6, none⟩, ⟨some 3, .assign (.const (.bool false)), y7, y8, y9, none⟩] false) .ret).wp Try.prog (bodyPost Try.prog fn R) a w := by
  refine wp_seq (wp_region_lit ?_)
  refine wpList_plain rfl fun K hK => op_value (v := formV 0 noFrm) (by simp [execOp, go_sem, formV, noFrm]) (hK _ _ ?_)
  clear hK K
  generalize ha2 : a.put (some m) _ = a2
  have e2 : a2.tmps[2]?.getD undef = .pointer (some ⟨B, 0, none⟩) := by rw [← Array.getD_eq_getD_getElem?, ← ha2, getD_put, if_neg (by omega)]; exact h2
  have e3 : a2.tmps[m]?.getD undef = formV 0 noFrm := by rw [← Array.getD_eq_getD_getElem?, ← ha2, getD_put, if_pos ⟨rfl, by rw [hs]; exact hm⟩]
  obtain ⟨w2, hrun, hB2, hb2⟩ := store_frm w B z0 z1 z2 z3 z4 z5 z6 z7 hB a2 m 0 noFrm e2 e3 y4 y5 y6
  refine wpList_plain rfl fun K hK => op_skip hrun (hK _ _ ?_)
  clear hK K
  refine wpList_plain rfl fun K hK => op_value (v := .bool false) (by simp [execOp, go_sem]) (hK _ _ ?_)
  clear hK K
  refine wpList_nil (wp_ret ?_)
  have sz : (a2.put none undef).tmps.size = top := by rw [← ha2]; simp [Act.put, hs]
  refine ⟨by rw [← ha2]; simp [Act.put, hd], .tuple #[formV 0 noFrm, .bool false], ?_, hR w2 hb2⟩
  generalize ha3 : (a2.put none undef).put (some 3) (.bool false) = a3
  have e4 : a3.tmps[2]?.getD undef = .pointer (some ⟨B, 0, none⟩) := by rw [← Array.getD_eq_getD_getElem?, ← ha3, getD_put, if_neg (by omega), Array.getD_eq_getD_getElem?]; exact e2
  have e5 : a3.tmps[3]?.getD undef = .bool false := by rw [← Array.getD_eq_getD_getElem?, ← ha3, getD_put, if_pos ⟨rfl, by rw [sz]; omega⟩]
  obtain ⟨hc, hf⟩ := one_block hB2
  have c0 := hc 0
  have c1 := hc 1
  have c2 := hc 2
  have c3 := hc 3
  have c4 := hc 4
  have c5 := hc 5
  have c6 := hc 6
  have c7 := hc 7
  unfold frmCells noFrm at c0 c1 c2 c3 c4 c5 c6 c7
  simp [results, hfn, go_sem, e4, e5, formV, noFrm, c0, c1, c2, c3, c4, c5, c6, c7]

/-- The switch, off the code. -/
def formSwitch (g T top : Nat) (c : Code) : Option (List (Int × Frm)) := match armsOf 4 5 top .u16 200 c with
  | some l => formsOf g T top l
  | none => none

set_option maxRecDepth 10000 in
theorem refOf_any (n : Int) (w : World) : Calls Try.prog 23 #[.int .u16 n] w fun e w' => e = .returned (.tuple #[ofV n, .bool (lookF refT n).2]) ∧ Below w.heap.size w w' := by
  refine calls_of_wp Try.func23 rfl ?_
  generalize ha : ({ tmps := #[.int .u16 n] ++ Array.replicate (Try.f23.ntmps - (#[Value.int .u16 n] : Array Value).size) undef, defers := [] } : Act) = a
  have hsz : a.tmps.size = Try.f23.ntmps := by rw [← ha]; simp
  have ha0 : a.tmps.getD 0 undef = .int .u16 n := by rw [← ha]; rw [Array.getD_eq_getD_getElem?, Array.getElem?_append_left (by simp)]; rfl
  have had : a.defers = [] := by rw [← ha]
  have h1 : oneEachF refT = true := by decide +kernel
  clear ha
  refine wp_seq (wp_region_lit ?_)
  refine wpList_plain rfl fun K hK => op_new (v := .pointer (some ⟨w.heap.size, 0, none⟩)) (w' := w.alloc (.cells (frmCells 0 noFrm) 59)) (by simp [execOp, go_sem, frmCells, noFrm]) (hK _ _ ?_)
  clear hK K
  refine wpList_plain rfl fun K hK => op_value (v := .bool false) (by simp [execOp, go_sem]) (hK _ _ (wpList_nil ?_))
  clear hK K
  refine wp_seq (wp_seq (wp_region_lit ?_))
  generalize hA : (a.put (some 2) (.pointer (some ⟨w.heap.size, 0, none⟩))).put (some 3) (.bool false) = A
  have sA : A.tmps.size = Try.f23.ntmps := by rw [← hA]; simp [Act.put, hsz]
  have dA : A.defers = [] := by rw [← hA]; simp [Act.put, had]
  have A0 : A.tmps.getD 0 undef = .int .u16 n := by rw [← hA, getD_put, if_neg (by omega), getD_put, if_neg (by omega)]; exact ha0
  have A2 : A.tmps.getD 2 undef = .pointer (some ⟨w.heap.size, 0, none⟩) := by rw [← hA, getD_put, if_neg (by omega), getD_put, if_pos ⟨rfl, by rw [hsz]; decide⟩]
  clear hA
  have A0' : A.tmps[0]?.getD undef = .int .u16 n := by rw [← Array.getD_eq_getD_getElem?]; exact A0
  refine wpList_plain rfl fun K hK => op_value (v := .int .u16 n) (by simp [execOp, go_sem, A0']) (hK _ _ (wpList_nil (wp_block ?_)))
  clear hK K
  generalize hX : A.put (some 4) (.int .u16 n) = X
  have sX : X.tmps.size = Try.f23.ntmps := by rw [← hX]; simp [Act.put, sA]
  have dX : X.defers = [] := by rw [← hX]; simp [Act.put, dA]
  have X0 : X.tmps.getD 0 undef = .int .u16 n := by rw [← hX, getD_put, if_neg (by omega)]; exact A0
  have X2 : X.tmps.getD 2 undef = .pointer (some ⟨w.heap.size, 0, none⟩) := by rw [← hX, getD_put, if_neg (by omega)]; exact A2
  have X4 : X.tmps.getD 4 undef = .int .u16 n := by rw [← hX, getD_put, if_pos ⟨rfl, by rw [sA]; decide⟩]
  clear hX A0 A0' A2 dA sA
  have hB : (w.alloc (.cells (frmCells 0 noFrm) 59)).heap[w.heap.size]? = some (.cells (frmCells 0 noFrm) 59 (0, 0)) := alloc_new w _ _
  have hbel : Below w.heap.size w (w.alloc (.cells (frmCells 0 noFrm) 59)) := (Below.refl _ w).alloc (Nat.le_refl _) _
  generalize w.alloc (.cells (frmCells 0 noFrm) 59) = W at *
  have sw : ∀ c, formSwitch 40 59 Try.f23.ntmps c = some refT → ∀ Q, (∀ a' (d : Code) f, Agree 5 X a' → armForm 40 59 Try.f23.ntmps d = some f → lookF refT n = (f, true) → d.wp Try.prog Q a' W) → (∀ a', Agree 5 X a' → lookF refT n = (noFrm, false) → Q .normal a' W) → c.wp Try.prog Q X W := by
    intro c hc Q harm hno
    unfold formSwitch at hc
    split at hc
    case h_2 => cases hc
    rename_i l hl
    refine wp_arms (x := 4) (lo := 5) (n := n) (by omega) 200 c l X W hl sX X4 (fun a' k d hag hm e => ?_) (fun a' hag hn => ?_)
    · obtain ⟨f, h3, h5⟩ := formsOf_mem hc k d hm
      exact harm a' d f hag h3 (by rw [e]; exact lookF_mem h1 k f h5)
    · exact hno a' hag (lookF_none fun k s hm => by obtain ⟨c, hc⟩ := formsOf_keys hc k s hm; exact hn k c hc)
  refine sw _ (by kernel_rfl) _ (fun a' d f hag h3 h4 => ?_) (fun a' hag h4 => ?_)
  · exact wp_armForm (B := w.heap.size) (n := n) (fn := Try.f23) (R := fun e w' => e = .returned (.tuple #[ofV n, .bool (lookF refT n).2]) ∧ Below w.heap.size w w') h3 rfl (by decide) (hag.1.trans sX) (hag.2.1.trans dX) ((hag.2.2 0 (by omega)).trans X0) ((hag.2.2 2 (by omega)).trans X2) hB (fun w' hb => ⟨by rw [ofV, h4]; rfl, hbel.trans hb⟩) (fun a' w' h => h)
  · exact wp_noForm (top := Try.f23.ntmps) (B := w.heap.size) (fn := Try.f23) (R := fun e w' => e = .returned (.tuple #[ofV n, .bool (lookF refT n).2]) ∧ Below w.heap.size w w') rfl (by decide) (by decide) (by decide) (hag.1.trans sX) (hag.2.1.trans dX) ((hag.2.2 2 (by omega)).trans X2) hB (fun w' hb => ⟨by rw [ofV, h4]; rfl, hbel.trans hb⟩)

end Go.Proofs.Ytpggcpnjcalfaaa

/-
  What the switches over texts of the layer grammar answer: the text of the number, for every number.
-/
namespace Go.Proofs.Ytpggcpnjcalfaaa
open Go.RowKit
set_option maxRecDepth 10000

theorem namingText_any (n : Int) (w : World) : Calls Try.prog 64 #[.int .u16 n] w fun e w' => e = .returned (.string (lookT namingT n)) ∧ w = w' :=
  calls_textSwitch Try.func64 rfl rfl (by decide) rfl (by kernel_rfl) (by decide +kernel) n w

theorem makingText_any (n : Int) (w : World) : Calls Try.prog 65 #[.int .u16 n] w fun e w' => e = .returned (.string (lookT makingT n)) ∧ w = w' :=
  calls_textSwitch Try.func65 rfl rfl (by decide) rfl (by kernel_rfl) (by decide +kernel) n w

theorem countingText_any (n : Int) (w : World) : Calls Try.prog 66 #[.int .u16 n] w fun e w' => e = .returned (.string (lookT countingT n)) ∧ w = w' :=
  calls_textSwitch Try.func66 rfl rfl (by decide) rfl (by kernel_rfl) (by decide +kernel) n w

theorem comparingText_any (n : Int) (w : World) : Calls Try.prog 67 #[.int .u16 n] w fun e w' => e = .returned (.string (lookT comparingT n)) ∧ w = w' :=
  calls_textSwitch Try.func67 rfl rfl (by decide) rfl (by kernel_rfl) (by decide +kernel) n w

theorem bitText_any (n : Int) (w : World) : Calls Try.prog 68 #[.int .u16 n] w fun e w' => e = .returned (.string (lookT bitT n)) ∧ w = w' :=
  calls_textSwitch Try.func68 rfl rfl (by decide) rfl (by kernel_rfl) (by decide +kernel) n w

theorem flowText_any (n : Int) (w : World) : Calls Try.prog 69 #[.int .u16 n] w fun e w' => e = .returned (.string (lookT flowT n)) ∧ w = w' :=
  calls_textSwitch Try.func69 rfl rfl (by decide) rfl (by kernel_rfl) (by decide +kernel) n w

theorem enumText_any (n : Int) (w : World) : Calls Try.prog 91 #[.int .u8 n] w fun e w' => e = .returned (.string (lookT enumT n)) ∧ w = w' :=
  calls_textSwitch Try.func91 rfl rfl (by decide) rfl (by kernel_rfl) (by decide +kernel) n w

end Go.Proofs.Ytpggcpnjcalfaaa

/-
  What readForm of the layer grammar returns, for every text that is good: the form that it tells.
-/
namespace Go.Proofs.Ytpggcpnjcalfaaa
open Go.RowKit Go.Lib
set_option maxRecDepth 10000
set_option linter.unusedVariables false
set_option linter.unusedSimpArgs false

theorem set_at {w : World} {B T : Nat} {cs : Array Value} (h : w.heap[B]? = some (.cells cs T (0, 0))) (i : Nat) (v : Value) : (w.setCell ⟨B, i, none⟩ v).heap[B]? = some (.cells (cs.setIfInBounds i v) T (0, 0)) := by
  simp only [World.setCell, Array.getElem?_modify, h]; simp

theorem set_off (w : World) (B i : Nat) (v : Value) {k : Nat} (h : k ≠ B) : (w.setCell ⟨B, i, none⟩ v).heap[k]? = w.heap[k]? := Below.heap_setCell w ⟨B, i, none⟩ v k (by simpa using h)

theorem allocs2 (w : World) (a b : Obj) : ((w.alloc a).alloc b).heap[w.heap.size]? = some a ∧ ((w.alloc a).alloc b).heap[w.heap.size + 1]? = some b :=
  ⟨(Below.heap_alloc _ _ _ (by simp)).trans (heap_alloc_new w _), by have := heap_alloc_new (w.alloc a) b; rw [World.size_alloc] at this; exact this⟩
theorem allocs3 (w : World) (a b c : Obj) : (((w.alloc a).alloc b).alloc c).heap[w.heap.size]? = some a ∧ (((w.alloc a).alloc b).alloc c).heap[w.heap.size + 1]? = some b ∧ (((w.alloc a).alloc b).alloc c).heap[w.heap.size + 2]? = some c :=
  ⟨(Below.heap_alloc _ _ _ (by simp; omega)).trans (allocs2 w a b).1, (Below.heap_alloc _ _ _ (by simp)).trans (allocs2 w a b).2, by have := heap_alloc_new ((w.alloc a).alloc b) c; rw [World.size_alloc, World.size_alloc] at this; exact this⟩

/-- What holds between two signs. -/
def RdI (w : World) (s : ByteArray) (n : Int) (k : Nat) (W : World) : Prop :=
  Below w.heap.size w W ∧ W.heap[w.heap.size]? = some (.cells (frmCells 0 noFrm) 103 (0, 0)) ∧ W.heap[w.heap.size + 1]? = some (.cells (frmCells n (rdTo s k).2.2) 103 (0, 0)) ∧ W.heap[w.heap.size + 2]? = some (.stringIter s k)

/-- How many signs are left. -/
def left (b m : Nat) (W : World) : Nat := match W.heap[b]? with | some (.stringIter _ k) => m - k | _ => 0
theorem left_at {b m : Nat} {W : World} {s : ByteArray} {k : Nat} (h : W.heap[b]? = some (.stringIter s k)) : left b m W = m - k := by unfold left; rw [h]

/-- One sign on: what the walk of a round must come to. -/
theorem rdI_next {w W : World} {s : ByteArray} {n : Int} {k : Nat} (hb : Below w.heap.size w W) (h4 : W.heap[w.heap.size]? = some (.cells (frmCells 0 noFrm) 103 (0, 0))) {cs : Array Value} (h5 : W.heap[w.heap.size + 1]? = some (.cells cs 103 (0, 0))) (hcs : cs = frmCells n (rdTo s k).2.2) (hit : W.heap[w.heap.size + 2]? = some (.stringIter s k)) : RdI w s n k W :=
  ⟨hb, h4, by rw [h5, hcs], hit⟩

set_option maxRecDepth 10000 in
set_option maxHeartbeats 4000000 in
theorem readForm_any (n : Int) (s : ByteArray) (w : World) (hg : goodT s = true) (hs : s.size ≤ 1000) :
    Calls Try.prog 46 #[.int .u16 n, .string s] w fun e w' => e = .returned (formV n (rdF s)) ∧ Below w.heap.size w w' := by
  have HG : Hid (goodT s = true) := hg
  clear hg
  go_enter Try.func46, Try.ntmps46
  go_wp2
  go_loopw [6, 7] (fun c f W => ∃ k : Nat, k ≤ s.size ∧ c = .int .i64 (rdTo s k).1 ∧ f = .int .i64 (rdTo s k).2.1 ∧ RdI w s n k W) (fun _ _ W => left (w.heap.size + 2) s.size W)
  case atStart =>
    refine ⟨0, Nat.zero_le _, rfl, rfl, (((Below.refl _ w).alloc (Nat.le_refl _) _).alloc (by simp) _).alloc (by simp; omega) _, ?_, ?_, ?_⟩
    · exact (allocs3 w _ _ _).1
    · exact (allocs3 w _ _ _).2.1
    · exact (allocs3 w _ _ _).2.2
  case round =>
    obtain ⟨k, hk, rfl, rfl, hb, h4, h5, hit⟩ := hrel
    have hl0 : left (w.heap.size + 2) s.size wr = s.size - k := left_at hit
    by_cases hlt : k < s.size
    · have hok := goodT_at HG.out hlt
      have HS : Hid (rdTo s (k + 1) = rdStep s k (sgn s k) (rdTo s k)) := rfl
      have hsg := sgn_at s k hlt
      generalize sgn s k = c at *
      generalize hrd : rdTo s k = x at *
      obtain ⟨col, fr, nm, t, r, fx, rs, mo, pa⟩ := x
      simp only [rdOk, decide_eq_true_eq] at hok
      obtain ⟨o1, o2, o3, o4, o5, o6, o7, o8, o9, o10⟩ := hok
      have hnx := fun ty => run_next_ascii_at (P := Try.prog) _ _ s k ty hit hlt (by omega)
      rw [hsg] at hnx
      obtain ⟨W1, hW1⟩ : ∃ X, X = wr.iterAt (w.heap.size + 2) s (k + 1) := ⟨_, rfl⟩
      rw [← hW1] at hnx
      have hb1 : Below w.heap.size w W1 := by rw [hW1]; exact below_iterAt hb (by omega) _ _
      have i1 : W1.heap[w.heap.size + 2]? = some (.stringIter s (k + 1)) := by rw [hW1]; exact iterAt_heap _ _ _ _ _ hit
      have g4 : W1.heap[w.heap.size]? = some (.cells (frmCells 0 noFrm) 103 (0, 0)) := by rw [hW1, iterAt_other _ _ _ _ _ (by omega)]; exact h4
      have g5 : W1.heap[w.heap.size + 1]? = some (.cells (frmCells n (nm, t, r, fx, rs, mo, pa)) 103 (0, 0)) := by rw [hW1, iterAt_other _ _ _ _ _ (by omega)]; exact h5
      clear hW1 h4 h5 hit hb hsg hrd
      obtain ⟨hc, hf⟩ := one_block g5
      have HB : Hid (Below w.heap.size w W1) := hb1
      have H4 : Hid (W1.heap[w.heap.size]? = some (.cells (frmCells 0 noFrm) 103 (0, 0))) := g4
      have H5 : Hid (W1.heap[w.heap.size + 1]? = some (.cells (frmCells n (nm, t, r, fx, rs, mo, pa)) 103 (0, 0))) := g5
      have HI : Hid (W1.heap[w.heap.size + 2]? = some (.stringIter s (k + 1))) := i1
      have HL : Hid (left (w.heap.size + 2) s.size wr = s.size - k) := hl0
      clear g4 g5 i1 hb1 hl0
      by_cases h47 : c = 47
      · subst h47
        have e1 : rdTo s (k + 1) = (col + 1, (k : Int) + 1, nm, t, r, fx, rs, mo, pa) := by rw [HS.out]; simp [rdStep]
        have HE : Hid (rdTo s (k + 1) = (col + 1, (k : Int) + 1, nm, t, r, fx, rs, mo, pa)) := e1
        clear e1 HS hc hf o9 o10
        go_wp2
        go_roundw
        case rel => exact ⟨k + 1, by omega, by rw [HE.out], by rw [HE.out], HB.out, H4.out, by rw [HE.out]; exact H5.out, HI.out⟩
        case measure => rw [HL.out, left_at HI.out]; omega
      · have hne : (c == 47) = false := by simpa using h47
        have c1 := hc 1
        have c2 := hc 2
        have c3 := hc 3
        have c4 := hc 4
        have c5 := hc 5
        have c6 := hc 6
        have c7 := hc 7
        have f1 := hf 1
        have f2 := hf 2
        have f3 := hf 3
        have f4 := hf 4
        have f5 := hf 5
        have f6 := hf 6
        have f7 := hf 7
        clear hc hf
        unfold frmCells at c1 c2 c3 c4 c5 c6 c7
        rcases (show col = 0 ∨ col = 1 ∨ col = 2 ∨ col = 3 ∨ col = 4 ∨ col = 5 by omega) with rfl | rfl | rfl | rfl | rfl | rfl
        · have HE : Hid (rdTo s (k + 1) = (0, fr, s.extract fr.toNat (k + 1), t, r, fx, rs, mo, pa)) := by show _ = _; rw [HS.out]; simp [rdStep, h47]
          clear HS o9 o10
          go_wp2
          go_roundw
          case rel => exact ⟨k + 1, by omega, by rw [HE.out], by rw [HE.out], HB.out.setCell (by simp) _, (set_off _ _ _ _ (by omega)).trans H4.out, by rw [HE.out]; exact set_at H5.out 1 _, (set_off _ _ _ _ (by omega)).trans HI.out⟩
          case measure => rw [HL.out, left_at ((set_off _ _ _ _ (by omega)).trans HI.out)]; omega
        · have HE : Hid (rdTo s (k + 1) = (1, fr, nm, t || (c == 116), r || (c == 114), fx, rs, mo, pa)) := by show _ = _; rw [HS.out]; simp [rdStep, h47]
          clear HS o9 o10
          cases t <;> cases r
          all_goals
            go_wp2
            go_roundw
            case rel => exact ⟨k + 1, by omega, by rw [HE.out], by rw [HE.out], (HB.out.setCell (by simp) _).setCell (by simp) _, (set_off _ _ _ _ (by omega)).trans ((set_off _ _ _ _ (by omega)).trans H4.out), by rw [HE.out]; exact set_at (set_at H5.out 2 _) 3 _, (set_off _ _ _ _ (by omega)).trans ((set_off _ _ _ _ (by omega)).trans HI.out)⟩
            case measure => rw [HL.out, left_at ((set_off _ _ _ _ (by omega)).trans ((set_off _ _ _ _ (by omega)).trans HI.out))]; omega
        · have HE : Hid (rdTo s (k + 1) = (2, fr, nm, t, r, s.extract fr.toNat (k + 1), rs, mo, pa)) := by show _ = _; rw [HS.out]; simp [rdStep, h47]
          clear HS o9 o10
          go_wp2
          go_roundw
          case rel => exact ⟨k + 1, by omega, by rw [HE.out], by rw [HE.out], HB.out.setCell (by simp) _, (set_off _ _ _ _ (by omega)).trans H4.out, by rw [HE.out]; exact set_at H5.out 4 _, (set_off _ _ _ _ (by omega)).trans HI.out⟩
          case measure => rw [HL.out, left_at ((set_off _ _ _ _ (by omega)).trans HI.out)]; omega
        · have HE : Hid (rdTo s (k + 1) = (3, fr, nm, t, r, fx, s.extract fr.toNat (k + 1), mo, pa)) := by show _ = _; rw [HS.out]; simp [rdStep, h47]
          clear HS o9 o10
          go_wp2
          go_roundw
          case rel => exact ⟨k + 1, by omega, by rw [HE.out], by rw [HE.out], HB.out.setCell (by simp) _, (set_off _ _ _ _ (by omega)).trans H4.out, by rw [HE.out]; exact set_at H5.out 5 _, (set_off _ _ _ _ (by omega)).trans HI.out⟩
          case measure => rw [HL.out, left_at ((set_off _ _ _ _ (by omega)).trans HI.out)]; omega
        · have HE : Hid (rdTo s (k + 1) = (4, fr, nm, t, r, fx, rs, 10 * mo + (c - 48), pa)) := by show _ = _; rw [HS.out]; simp [rdStep, h47]
          clear HS 
          have o11 := o9 rfl h47
          clear o9 o10
          go_wp2
          go_roundw
          case rel => exact ⟨k + 1, by omega, by rw [HE.out], by rw [HE.out], HB.out.setCell (by simp) _, (set_off _ _ _ _ (by omega)).trans H4.out, by rw [HE.out]; exact set_at H5.out 6 _, (set_off _ _ _ _ (by omega)).trans HI.out⟩
          case measure => rw [HL.out, left_at ((set_off _ _ _ _ (by omega)).trans HI.out)]; omega
        · have HE : Hid (rdTo s (k + 1) = (5, fr, nm, t, r, fx, rs, mo, c - 48)) := by show _ = _; rw [HS.out]; simp [rdStep, h47]
          clear HS 
          have o11 := o10 rfl h47
          clear o9 o10
          go_wp2
          go_roundw
          case rel => exact ⟨k + 1, by omega, by rw [HE.out], by rw [HE.out], HB.out.setCell (by simp) _, (set_off _ _ _ _ (by omega)).trans H4.out, by rw [HE.out]; exact set_at H5.out 7 _, (set_off _ _ _ _ (by omega)).trans HI.out⟩
          case measure => rw [HL.out, left_at ((set_off _ _ _ _ (by omega)).trans HI.out)]; omega
    · have hnx := fun ty => run_next_end_at (P := Try.prog) _ _ s k ty hit hlt
      obtain rfl : k = s.size := by omega
      have HF : Hid (rdF s = (rdTo s s.size).2.2) := rfl
      generalize rdTo s s.size = x at *
      obtain ⟨col, fr, nm, t, r, fx, rs, mo, pa⟩ := x
      obtain ⟨hc, hf⟩ := one_block h5
      obtain ⟨gc, gf⟩ := one_block h4
      have c0 := hc 0
      have c1 := hc 1
      have c2 := hc 2
      have c3 := hc 3
      have c4 := hc 4
      have c5 := hc 5
      have c6 := hc 6
      have c7 := hc 7
      have d0 := gc 0
      have d1 := gc 1
      have d2 := gc 2
      have d3 := gc 3
      have d4 := gc 4
      have d5 := gc 5
      have d6 := gc 6
      have d7 := gc 7
      unfold frmCells at c0 c1 c2 c3 c4 c5 c6 c7
      unfold frmCells noFrm at d0 d1 d2 d3 d4 d5 d6 d7
      have HB : Hid (Below w.heap.size w wr) := hb
      have H4 : Hid (wr.heap[w.heap.size]? = some (.cells (frmCells 0 noFrm) 103 (0, 0))) := h4
      clear hc gc h4 h5 hit hl0 hb
      go_wp2
      have hx := eight_set H4.out (.int .u16 n) (.string nm) (.bool t) (.bool r) (.string fx) (.string rs) (.int .i64 mo) (.int .u8 pa)
      have hy := eight_below wr w.heap.size (.int .u16 n) (.string nm) (.bool t) (.bool r) (.string fx) (.string rs) (.int .i64 mo) (.int .u8 pa)
      obtain ⟨xc, xf⟩ := one_block hx
      have x0 := xc 0
      have x1 := xc 1
      have x2 := xc 2
      have x3 := xc 3
      have x4 := xc 4
      have x5 := xc 5
      have x6 := xc 6
      have x7 := xc 7
      clear hx xc d0 d1 d2 d3 d4 d5 d6 d7 c0 c1 c2 c3 c4 c5 c6 c7 gf hf xf
      generalize hZ : ((((((((wr.setCell ⟨w.heap.size, 0, none⟩ (.int .u16 n)).setCell ⟨w.heap.size, 1, none⟩ (.string nm)).setCell ⟨w.heap.size, 2, none⟩ (.bool t)).setCell ⟨w.heap.size, 3, none⟩ (.bool r)).setCell ⟨w.heap.size, 4, none⟩ (.string fx)).setCell ⟨w.heap.size, 5, none⟩ (.string rs)).setCell ⟨w.heap.size, 6, none⟩ (.int .i64 mo)).setCell ⟨w.heap.size, 7, none⟩ (.int .u8 pa)) = Z at *
      exact bodyPost_ret (v := formV n (nm, t, r, fx, rs, mo, pa)) (by simp [results, Try.results46, go_sem, formV, x0, x1, x2, x3, x4, x5, x6, x7]) rfl ⟨by rw [HF.out], HB.out.trans hy⟩

end Go.Proofs.Ytpggcpnjcalfaaa
