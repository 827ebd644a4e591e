/-
  What Kind, Enum and EnumNamed of the document's answer return, and Kind of the layer grammar, for every argument.
-/
import Derived.WalkSpells
import Derived.WalkMore
import Derived.Test.YtjpbiakbjpiceabRef03Names
import Derived.Test.YtjpbiakbjpiceabGrammarTexts
import Derived.Test.YtjpbiakbjpiceabGrammarOf
namespace Go.Proofs.Ytjpbiakbjpiceab
open Go.RowKit
set_option maxRecDepth 10000
set_option linter.unusedVariables false
set_option linter.unusedSimpArgs false

/-- The enumerant at a place of the list. -/
def nmN (k : Nat) : Int × Int × ByteArray := namesT.getD k (0, 0, ⟨#[]⟩)

theorem flat_at : ∀ (l : List (Int × Int × ByteArray)) (k j : Nat), k < l.length → j < 3 → (l.flatMap nmCells)[k * 3 + j]? = (nmCells (l.getD k (0, 0, ⟨#[]⟩)))[j]?
  | [], k, j, h, _ => by simp at h
  | x :: l, 0, j, h, hj => by
    rw [List.flatMap_cons, List.getElem?_append_left (by simp [nmCells]; omega)]; simp
  | x :: l, k + 1, j, h, hj => by
    rw [List.flatMap_cons, List.getElem?_append_right (by simp [nmCells]; omega)]
    have e : (k + 1) * 3 + j - (nmCells x).length = k * 3 + j := by simp [nmCells]; omega
    rw [e, flat_at l k j (by simpa using h) hj]
    simp

/-- The list of names, as it can be read. -/
def NamesV (W : World) (v : Value) : Prop := ∃ g cap, v = .slice (some ⟨g, 0, none⟩) 30 cap ∧ ∀ k, k < 30 → W.cell? ⟨g, k * 3, none⟩ = some (.int .u8 (nmN k).1) ∧ W.cell? ⟨g, k * 3 + 1, none⟩ = some (.int .u32 (nmN k).2.1) ∧ W.cell? ⟨g, k * 3 + 2, none⟩ = some (.string (nmN k).2.2)

theorem namesV_of {W : World} {B : Nat} {v : Value} (h : W.ownsRow B 26 3 v namesT.length (namesT.flatMap nmCells)) : NamesV W v := by
  have hl : namesT.length = 30 := by decide +kernel
  have hc := fun g hg => h.cells (g := g) hg
  rcases h.2 with ⟨_, h0⟩ | ⟨g, cap, cur, rfl, _, _, _, _, _, _⟩
  · rw [hl] at h0; omega
  · refine ⟨g, cap, by rw [hl], fun k hk => ?_⟩
    have hk' : k < namesT.length := by omega
    have q : ∀ j, j < 3 → ∀ u, (nmCells (nmN k))[j]? = some u → W.cell? ⟨g, k * 3 + j, none⟩ = some u := fun j hj u hu => by
      have := hc g rfl (k * 3 + j) u (by rw [flat_at _ _ _ hk' hj]; exact hu)
      rw [Addr.add_lit, Nat.zero_add] at this
      exact this
    exact ⟨q 0 (by omega) _ rfl, q 1 (by omega) _ rfl, q 2 (by omega) _ rfl⟩

theorem find_at {p : Int × Int × ByteArray → Bool} : ∀ (l : List (Int × Int × ByteArray)) (k : Nat), k < l.length → (∀ j, j < k → p (l.getD j (0, 0, ⟨#[]⟩)) = false) → p (l.getD k (0, 0, ⟨#[]⟩)) = true → l.find? p = some (l.getD k (0, 0, ⟨#[]⟩))
  | [], k, h, _, _ => by simp at h
  | x :: l, 0, _, _, h => by
    have h' : p x = true := by simpa using h
    simp [List.find?_cons, h']
  | x :: l, k + 1, hk, h0, h => by
    have h' : p x = false := by simpa using h0 0 (by omega)
    rw [List.find?_cons, h']
    have := find_at l k (by simpa using hk) (fun j hj => by simpa using h0 (j + 1) (by omega)) (by simpa using h)
    simpa using this
theorem find_not {p : Int × Int × ByteArray → Bool} : ∀ (l : List (Int × Int × ByteArray)), (∀ j, j < l.length → p (l.getD j (0, 0, ⟨#[]⟩)) = false) → l.find? p = none
  | [], _ => rfl
  | x :: l, h0 => by
    have h' : p x = false := by simpa using h0 0 (by simp)
    rw [List.find?_cons, h']
    exact find_not l (fun j hj => by simpa using h0 (j + 1) (by simpa using hj))

def isLet (c : Int) (x : Int × Int × ByteArray) : Bool := x.1 == c
def isNum (c n : Int) (x : Int × Int × ByteArray) : Bool := (x.1 == c) && (x.2.1 == n)
def isNam (c : Int) (s : ByteArray) (x : Int × Int × ByteArray) : Bool := (x.1 == c) && (x.2.2.toList == s.toList)

/-- The kind of a letter. -/
def kindI (c : Int) : Int := if c = 105 then 1 else if c = 110 then 2 else if c = 115 then 3 else if (namesT.find? (isLet c)).isSome then 4 else 0
/-- The name of a number. -/
def enumS (c n : Int) : ByteArray := match namesT.find? (isNum c n) with | some x => x.2.2 | none => ⟨#[]⟩
def enumB (c n : Int) : Bool := (namesT.find? (isNum c n)).isSome
/-- The number of a name. -/
def enumN (c : Int) (s : ByteArray) : Int := match namesT.find? (isNam c s) with | some x => x.2.1 | none => 0
def enumNB (c : Int) (s : ByteArray) : Bool := (namesT.find? (isNam c s)).isSome

theorem names_view (w : World) : Calls Try.prog 7 #[] w fun e w' => ∃ v, e = .returned v ∧ NamesV w' v ∧ Below w.heap.size w w' := by
  refine (names_any w).mono ?_
  rintro e w' ⟨v, rfl, h, hb⟩
  exact ⟨v, rfl, namesV_of h, hb⟩

/-- A letter of the document's list is one that has a text, and the other way. -/
def lettersOk : Bool := (namesT.all fun x => enumT.any fun p => decide (p.1 = x.1)) && (enumT.all fun p => decide (p.2.size ≠ 0) && namesT.any fun x => decide (x.1 = p.1)) && oneEach enumT
theorem letters_ok : lettersOk = true := by decide +kernel
theorem enum_text (c : Int) : ((namesT.find? (isLet c)).isSome = true → (lookT enumT c).size ≠ 0) ∧ ((namesT.find? (isLet c)).isSome = false → lookT enumT c = ⟨#[]⟩) := by
  have h := letters_ok
  simp only [lettersOk, Bool.and_eq_true] at h
  obtain ⟨⟨h1, h2⟩, h3⟩ := h
  constructor
  · intro hs
    obtain ⟨x, hx⟩ := Option.isSome_iff_exists.1 hs
    have hm := List.mem_of_find?_eq_some hx
    have hc : x.1 = c := by have := List.find?_some hx; simpa [isLet] using this
    obtain ⟨p, hp, e⟩ := List.any_eq_true.1 (List.all_eq_true.1 h1 x hm)
    have e := of_decide_eq_true e
    have := List.all_eq_true.1 h2 p hp
    simp only [Bool.and_eq_true, decide_eq_true_eq] at this
    rw [lookT_mem h3 c p.2 (by rw [← hc, ← e]; exact hp)]
    exact this.1
  · intro hs
    refine lookT_none fun k s hm e => ?_
    have := List.all_eq_true.1 h2 (k, s) hm
    simp only [Bool.and_eq_true] at this
    obtain ⟨x, hx, e2⟩ := List.any_eq_true.1 this.2
    have e2 := of_decide_eq_true e2
    have : (namesT.find? (isLet c)).isSome = true := by
      rw [List.find?_isSome]
      exact ⟨x, hx, by simp [isLet, e2, e]⟩
    rw [this] at hs; cases hs

set_option maxHeartbeats 1000000 in
theorem kind_any (c : Int) (w : World) : Calls Try.prog 13 #[.int .u8 c] w fun e w' => e = .returned (.int .u8 (kindI c)) ∧ w = w' := by
  by_cases h1 : c = 105
  · subst h1
    go_enter Try.func13, Try.ntmps13
    go_wp2
    go_ret
    exact ⟨rfl, rfl⟩
  · have h1' : (c == 105) = false := by simpa using h1
    by_cases h2 : c = 110
    · subst h2
      go_enter Try.func13, Try.ntmps13
      go_wp2
      go_ret
      exact ⟨rfl, rfl⟩
    · have h2' : (c == 110) = false := by simpa using h2
      by_cases h3 : c = 115
      · subst h3
        go_enter Try.func13, Try.ntmps13
        go_wp2
        go_ret
        exact ⟨rfl, rfl⟩
      · have h3' : (c == 115) = false := by simpa using h3
        have HK : Hid (kindI c = if (namesT.find? (isLet c)).isSome then 4 else 0) := by show _ = _; unfold kindI; rw [if_neg h1, if_neg h2, if_neg h3]
        obtain ⟨t1, t2⟩ := enum_text c
        have hT := fun w => enumText_any c w
        clear h1 h2 h3
        cases hb : (namesT.find? (isLet c)).isSome
        · rw [t2 hb] at hT
          rw [hb] at HK
          clear t1 t2 hb
          go_enter Try.func13, Try.ntmps13
          go_wp2_with (go_at_call 25; refine (hT _).mono ?_; rintro e w' ⟨rfl, rfl⟩)
          go_ret
          exact ⟨by rw [HK.out]; rfl, rfl⟩
        · have e := bytes_empty _ (t1 hb)
          rw [hb] at HK
          clear t1 t2 hb
          generalize lookT enumT c = s at *
          go_enter Try.func13, Try.ntmps13
          go_wp2_with (go_at_call 25; refine (hT _).mono ?_; rintro e w' ⟨rfl, rfl⟩)
          go_ret
          exact ⟨by rw [HK.out]; rfl, rfl⟩

end Go.Proofs.Ytjpbiakbjpiceab
