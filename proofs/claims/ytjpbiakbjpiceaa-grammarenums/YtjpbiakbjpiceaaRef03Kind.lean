/-
  What Kind, Enum and EnumNamed of the document's answer return, and Kind of the layer grammar, for every argument.
-/
import Derived.WalkSpells
import Derived.WalkMore
import Derived.Test.YtjpbiakbjpiceaaRef03Names
import Derived.Test.YtjpbiakbjpiceaaGrammarTexts
import Derived.Test.YtjpbiakbjpiceaaGrammarOf
namespace Go.Proofs.Ytjpbiakbjpiceaa
open Go.RowKit
set_option linter.unusedVariables false
set_option linter.unusedSimpArgs false

/-- The enumerant at a place of the list. -/
def nmN (k : Nat) : Int × Int × ByteArray := namesT.getD k (0, 0, ⟨#[]⟩)

theorem flat_at : ∀ (l : List (Int × Int × ByteArray)) (k j : Nat), k < l.length → j < 3 → (l.flatMap nmCells)[k * 3 + j]? = (nmCells (l.getD k (0, 0, ⟨#[]⟩)))[j]?
  | [], k, j, h, _ => by simp at h
  | x :: l, 0, j, h, hj => by
    rw [List.flatMap_cons, List.getElem?_append_left (by simp [nmCells]; omega)]; simp
  | x :: l, k + 1, j, h, hj => by
    rw [List.flatMap_cons, List.getElem?_append_right (by simp [nmCells]; omega)]
    have e : (k + 1) * 3 + j - (nmCells x).length = k * 3 + j := by simp [nmCells]; omega
    rw [e, flat_at l k j (by simpa using h) hj]
    simp

/-- The list of names, as it can be read. -/
def NamesV (W : World) (v : Value) : Prop := ∃ g cap, v = .slice (some ⟨g, 0, none⟩) 30 cap ∧ ∀ k, k < 30 → W.cell? ⟨g, k * 3, none⟩ = some (.int .u8 (nmN k).1) ∧ W.cell? ⟨g, k * 3 + 1, none⟩ = some (.int .u32 (nmN k).2.1) ∧ W.cell? ⟨g, k * 3 + 2, none⟩ = some (.string (nmN k).2.2)

theorem namesV_of {W : World} {B : Nat} {v : Value} (h : W.ownsRow B 62 3 v namesT.length (namesT.flatMap nmCells)) : NamesV W v := by
  have hl : namesT.length = 30 := by decide +kernel
  have hc := fun g hg => h.cells (g := g) hg
  rcases h.2 with ⟨_, h0⟩ | ⟨g, cap, cur, rfl, _, _, _, _, _, _⟩
  · rw [hl] at h0; omega
  · refine ⟨g, cap, by rw [hl], fun k hk => ?_⟩
    have hk' : k < namesT.length := by omega
    have q : ∀ j, j < 3 → ∀ u, (nmCells (nmN k))[j]? = some u → W.cell? ⟨g, k * 3 + j, none⟩ = some u := fun j hj u hu => by
      have := hc g rfl (k * 3 + j) u (by rw [flat_at _ _ _ hk' hj]; exact hu)
      rw [Addr.add_lit, Nat.zero_add] at this
      exact this
    exact ⟨q 0 (by omega) _ rfl, q 1 (by omega) _ rfl, q 2 (by omega) _ rfl⟩

theorem find_at {p : Int × Int × ByteArray → Bool} : ∀ (l : List (Int × Int × ByteArray)) (k : Nat), k < l.length → (∀ j, j < k → p (l.getD j (0, 0, ⟨#[]⟩)) = false) → p (l.getD k (0, 0, ⟨#[]⟩)) = true → l.find? p = some (l.getD k (0, 0, ⟨#[]⟩))
  | [], k, h, _, _ => by simp at h
  | x :: l, 0, _, _, h => by
    have h' : p x = true := by simpa using h
    simp [List.find?_cons, h']
  | x :: l, k + 1, hk, h0, h => by
    have h' : p x = false := by simpa using h0 0 (by omega)
    rw [List.find?_cons, h']
    have := find_at l k (by simpa using hk) (fun j hj => by simpa using h0 (j + 1) (by omega)) (by simpa using h)
    simpa using this
theorem find_not {p : Int × Int × ByteArray → Bool} : ∀ (l : List (Int × Int × ByteArray)), (∀ j, j < l.length → p (l.getD j (0, 0, ⟨#[]⟩)) = false) → l.find? p = none
  | [], _ => rfl
  | x :: l, h0 => by
    have h' : p x = false := by simpa using h0 0 (by simp)
    rw [List.find?_cons, h']
    exact find_not l (fun j hj => by simpa using h0 (j + 1) (by simpa using hj))

def isLet (c : Int) (x : Int × Int × ByteArray) : Bool := x.1 == c
def isNum (c n : Int) (x : Int × Int × ByteArray) : Bool := (x.1 == c) && (x.2.1 == n)
def isNam (c : Int) (s : ByteArray) (x : Int × Int × ByteArray) : Bool := (x.1 == c) && (x.2.2.toList == s.toList)

/-- The kind of a letter. -/
def kindI (c : Int) : Int := if c = 105 then 1 else if c = 110 then 2 else if c = 115 then 3 else if (namesT.find? (isLet c)).isSome then 4 else 0
/-- The name of a number. -/
def enumS (c n : Int) : ByteArray := match namesT.find? (isNum c n) with | some x => x.2.2 | none => ⟨#[]⟩
def enumB (c n : Int) : Bool := (namesT.find? (isNum c n)).isSome
/-- The number of a name. -/
def enumN (c : Int) (s : ByteArray) : Int := match namesT.find? (isNam c s) with | some x => x.2.1 | none => 0
def enumNB (c : Int) (s : ByteArray) : Bool := (namesT.find? (isNam c s)).isSome

theorem names_view (w : World) : Calls Try.prog 32 #[] w fun e w' => ∃ v, e = .returned v ∧ NamesV w' v ∧ Below w.heap.size w w' := by
  refine (names_any w).mono ?_
  rintro e w' ⟨v, rfl, h, hb⟩
  exact ⟨v, rfl, namesV_of h, hb⟩

set_option maxHeartbeats 1000000 in
theorem refKind_any (c : Int) (w : World) : Calls Try.prog 16 #[.int .u8 c] w fun e w' => e = .returned (.int .u8 (kindI c)) ∧ Below w.heap.size w w' := by
  by_cases h1 : c = 105
  · subst h1
    go_enter Try.func16, Try.ntmps16
    go_wp2
    go_ret
    exact ⟨rfl, Below.refl _ _⟩
  · have h1' : (c == 105) = false := by simpa using h1
    by_cases h2 : c = 110
    · subst h2
      go_enter Try.func16, Try.ntmps16
      go_wp2
      go_ret
      exact ⟨rfl, Below.refl _ _⟩
    · have h2' : (c == 110) = false := by simpa using h2
      by_cases h3 : c = 115
      · subst h3
        go_enter Try.func16, Try.ntmps16
        go_wp2
        go_ret
        exact ⟨rfl, Below.refl _ _⟩
      · have h3' : (c == 115) = false := by simpa using h3
        have HK : Hid (kindI c = if (namesT.find? (isLet c)).isSome then 4 else 0) := by show _ = _; unfold kindI; rw [if_neg h1, if_neg h2, if_neg h3]
        have HN : Hid (namesT.length = 30) := by show _ = _; decide +kernel
        clear h1 h2 h3
        go_enter Try.func16, Try.ntmps16
        go_wp2_with fail
        refine (names_view _).mono ?_
        rintro e w1 ⟨v, rfl, ⟨g, cap, rfl, hc⟩, hb⟩
        have HC : Hid (∀ k, k < 30 → _) := fun k (hk : k < 30) => (hc k hk).1
        clear hc
        go_wp2
        go_loop [4] (fun i => ∃ k : Nat, k ≤ 30 ∧ i = .int .i64 k ∧ ∀ j, j < k → isLet c (nmN j) = false) (fun i => 30 - (intOf i).toNat)
        case atStart => exact ⟨0, by omega, rfl, fun j hj => by omega⟩
        case round =>
          obtain ⟨k, hk, rfl, hno⟩ := hrel
          have HO : Hid (∀ j, j < k → isLet c (nmN j) = false) := hno
          clear hno
          by_cases hlt : k < 30
          · have hcell := HC.out k hlt
            by_cases hit : (nmN k).1 = c
            · have HF : Hid (namesT.find? (isLet c) = some (nmN k)) := find_at namesT k (by rw [HN.out]; exact hlt) HO.out (by show isLet c (nmN k) = true; simp [isLet, hit])
              rw [hit] at hcell
              clear hit
              go_wp2
              try rw [Exit.noGoto_ret]
              go_ret
              exact ⟨by rw [HK.out, HF.out]; rfl, hb⟩
            · have hit' : ((nmN k).1 == c) = false := by simpa using hit
              have HS : Hid (∀ j, j < k + 1 → isLet c (nmN j) = false) := fun j hj => by
                by_cases e : j = k
                · subst e; exact hit'
                · exact HO.out j (by omega)
              generalize (nmN k).1 = y at hcell hit'
              clear hit
              go_wp2
              go_round
              case rel => exact ⟨k + 1, by omega, by go_num, HS.out⟩
              case measure => simp [intOf]; omega
          · have HF : Hid (namesT.find? (isLet c) = none) := find_not namesT (fun j hj => HO.out j (by rw [HN.out] at hj; omega))
            obtain rfl : k = 30 := by omega
            go_wp2
            go_ret
            exact ⟨by rw [HK.out, HF.out]; rfl, hb⟩

set_option maxHeartbeats 1000000 in
theorem refEnum_any (c n : Int) (w : World) : Calls Try.prog 19 #[.int .u8 c, .int .u32 n] w fun e w' => e = .returned (.tuple #[.string (enumS c n), .bool (enumB c n)]) ∧ Below w.heap.size w w' := by
  have HN : Hid (namesT.length = 30) := by show _ = _; decide +kernel
  go_enter Try.func19, Try.ntmps19
  go_wp2_with fail
  refine (names_view _).mono ?_
  rintro e w1 ⟨v, rfl, ⟨g, cap, rfl, hc⟩, hb⟩
  have HC : Hid (∀ k, k < 30 → _) := fun k (hk : k < 30) => hc k hk
  clear hc
  go_wp2
  go_loop [4, 5, 7] (fun r b i => r = .string ⟨#[]⟩ ∧ b = .bool false ∧ ∃ k : Nat, k ≤ 30 ∧ i = .int .i64 k ∧ ∀ j, j < k → isNum c n (nmN j) = false) (fun _ _ i => 30 - (intOf i).toNat)
  case atStart => exact ⟨rfl, rfl, 0, by omega, rfl, fun j hj => by omega⟩
  case round =>
    obtain ⟨rfl, rfl, k, hk, rfl, hno⟩ := hrel
    have HO : Hid (∀ j, j < k → isNum c n (nmN j) = false) := hno
    clear hno
    by_cases hlt : k < 30
    · obtain ⟨c0, c1, c2⟩ := HC.out k hlt
      have HF : Hid (isNum c n (nmN k) = true → namesT.find? (isNum c n) = some (nmN k)) := fun h => find_at namesT k (by rw [HN.out]; exact hlt) HO.out h
      have HS : Hid (isNum c n (nmN k) = false → ∀ j, j < k + 1 → isNum c n (nmN j) = false) := fun h j hj => by
        by_cases e : j = k
        · subst e; exact h
        · exact HO.out j (by omega)
      generalize nmN k = x at *
      obtain ⟨l, m, t⟩ := x
      simp only at c0 c1 c2
      by_cases h1 : l = c
      · subst h1
        by_cases h2 : m = n
        · subst h2
          have hf := HF.out (by simp [isNum])
          have HG : Hid (namesT.find? (isNum l m) = some (l, m, t)) := hf
          clear hf HF HS HO
          go_wp2
          try rw [Exit.noGoto_ret]
          go_ret2
          exact ⟨by simp only [enumS, enumB, HG.out]; rfl, hb⟩
        · have h2' : (m == n) = false := by simpa using h2
          have hs := HS.out (by simp [isNum, h2'])
          have HG : Hid (∀ j, j < k + 1 → isNum l n (nmN j) = false) := hs
          clear hs HF HS HO h2
          go_wp2
          go_round
          case rel => exact ⟨rfl, rfl, k + 1, by omega, by go_num, HG.out⟩
          case measure => simp [intOf]; omega
      · have h1' : (l == c) = false := by simpa using h1
        have hs := HS.out (by simp [isNum, h1'])
        have HG : Hid (∀ j, j < k + 1 → isNum c n (nmN j) = false) := hs
        clear hs HF HS HO h1
        go_wp2
        go_round
        case rel => exact ⟨rfl, rfl, k + 1, by omega, by go_num, HG.out⟩
        case measure => simp [intOf]; omega
    · have HF : Hid (namesT.find? (isNum c n) = none) := find_not namesT (fun j hj => HO.out j (by rw [HN.out] at hj; omega))
      obtain rfl : k = 30 := by omega
      go_wp2
      go_ret2
      exact ⟨by simp only [enumS, enumB, HF.out]; rfl, hb⟩

set_option maxHeartbeats 1000000 in
theorem refEnumNamed_any (c : Int) (s : ByteArray) (w : World) : Calls Try.prog 21 #[.int .u8 c, .string s] w fun e w' => e = .returned (.tuple #[.int .u32 (enumN c s), .bool (enumNB c s)]) ∧ Below w.heap.size w w' := by
  have HN : Hid (namesT.length = 30) := by show _ = _; decide +kernel
  go_enter Try.func21, Try.ntmps21
  go_wp2_with fail
  refine (names_view _).mono ?_
  rintro e w1 ⟨v, rfl, ⟨g, cap, rfl, hc⟩, hb⟩
  have HC : Hid (∀ k, k < 30 → _) := fun k (hk : k < 30) => hc k hk
  clear hc
  go_wp2
  go_loop [4, 5, 7] (fun r b i => r = .int .u32 0 ∧ b = .bool false ∧ ∃ k : Nat, k ≤ 30 ∧ i = .int .i64 k ∧ ∀ j, j < k → isNam c s (nmN j) = false) (fun _ _ i => 30 - (intOf i).toNat)
  case atStart => exact ⟨rfl, rfl, 0, by omega, rfl, fun j hj => by omega⟩
  case round =>
    obtain ⟨rfl, rfl, k, hk, rfl, hno⟩ := hrel
    have HO : Hid (∀ j, j < k → isNam c s (nmN j) = false) := hno
    clear hno
    by_cases hlt : k < 30
    · obtain ⟨c0, c1, c2⟩ := HC.out k hlt
      have HF : Hid (isNam c s (nmN k) = true → namesT.find? (isNam c s) = some (nmN k)) := fun h => find_at namesT k (by rw [HN.out]; exact hlt) HO.out h
      have HS : Hid (isNam c s (nmN k) = false → ∀ j, j < k + 1 → isNam c s (nmN j) = false) := fun h j hj => by
        by_cases e : j = k
        · subst e; exact h
        · exact HO.out j (by omega)
      generalize nmN k = x at *
      obtain ⟨l, m, t⟩ := x
      simp only at c0 c1 c2
      by_cases h1 : l = c
      · subst h1
        by_cases h2 : (t.toList == s.toList) = true
        · skip
          have hf := HF.out (by simpa [isNam] using h2)
          have HG : Hid (namesT.find? (isNam l s) = some (l, m, t)) := hf
          clear hf HF HS HO
          go_wp2
          try rw [Exit.noGoto_ret]
          go_ret2
          exact ⟨by simp only [enumN, enumNB, HG.out]; rfl, hb⟩
        · have h2' : (t.toList == s.toList) = false := by simpa using h2
          have hs := HS.out (by simp [isNam, h2'])
          have HG : Hid (∀ j, j < k + 1 → isNam l s (nmN j) = false) := hs
          clear hs HF HS HO h2
          go_wp2
          go_round
          case rel => exact ⟨rfl, rfl, k + 1, by omega, by go_num, HG.out⟩
          case measure => simp [intOf]; omega
      · have h1' : (l == c) = false := by simpa using h1
        have hs := HS.out (by simp [isNam, h1'])
        have HG : Hid (∀ j, j < k + 1 → isNam c s (nmN j) = false) := hs
        clear hs HF HS HO h1
        go_wp2
        go_round
        case rel => exact ⟨rfl, rfl, k + 1, by omega, by go_num, HG.out⟩
        case measure => simp [intOf]; omega
    · have HF : Hid (namesT.find? (isNam c s) = none) := find_not namesT (fun j hj => HO.out j (by rw [HN.out] at hj; omega))
      obtain rfl : k = 30 := by omega
      go_wp2
      go_ret2
      exact ⟨by simp only [enumN, enumNB, HF.out]; rfl, hb⟩

/-- A letter of the document's list is one that has a text, and the other way. -/
def lettersOk : Bool := (namesT.all fun x => enumT.any fun p => decide (p.1 = x.1)) && (enumT.all fun p => decide (p.2.size ≠ 0) && namesT.any fun x => decide (x.1 = p.1)) && oneEach enumT
theorem letters_ok : lettersOk = true := by decide +kernel
theorem enum_text (c : Int) : ((namesT.find? (isLet c)).isSome = true → (lookT enumT c).size ≠ 0) ∧ ((namesT.find? (isLet c)).isSome = false → lookT enumT c = ⟨#[]⟩) := by
  have h := letters_ok
  simp only [lettersOk, Bool.and_eq_true] at h
  obtain ⟨⟨h1, h2⟩, h3⟩ := h
  constructor
  · intro hs
    obtain ⟨x, hx⟩ := Option.isSome_iff_exists.1 hs
    have hm := List.mem_of_find?_eq_some hx
    have hc : x.1 = c := by have := List.find?_some hx; simpa [isLet] using this
    obtain ⟨p, hp, e⟩ := List.any_eq_true.1 (List.all_eq_true.1 h1 x hm)
    have e := of_decide_eq_true e
    have := List.all_eq_true.1 h2 p hp
    simp only [Bool.and_eq_true, decide_eq_true_eq] at this
    rw [lookT_mem h3 c p.2 (by rw [← hc, ← e]; exact hp)]
    exact this.1
  · intro hs
    refine lookT_none fun k s hm e => ?_
    have := List.all_eq_true.1 h2 (k, s) hm
    simp only [Bool.and_eq_true] at this
    obtain ⟨x, hx, e2⟩ := List.any_eq_true.1 this.2
    have e2 := of_decide_eq_true e2
    have : (namesT.find? (isLet c)).isSome = true := by
      rw [List.find?_isSome]
      exact ⟨x, hx, by simp [isLet, e2, e]⟩
    rw [this] at hs; cases hs

set_option maxHeartbeats 1000000 in
theorem kind_any (c : Int) (w : World) : Calls Try.prog 15 #[.int .u8 c] w fun e w' => e = .returned (.int .u8 (kindI c)) ∧ w = w' := by
  by_cases h1 : c = 105
  · subst h1
    go_enter Try.func15, Try.ntmps15
    go_wp2
    go_ret
    exact ⟨rfl, rfl⟩
  · have h1' : (c == 105) = false := by simpa using h1
    by_cases h2 : c = 110
    · subst h2
      go_enter Try.func15, Try.ntmps15
      go_wp2
      go_ret
      exact ⟨rfl, rfl⟩
    · have h2' : (c == 110) = false := by simpa using h2
      by_cases h3 : c = 115
      · subst h3
        go_enter Try.func15, Try.ntmps15
        go_wp2
        go_ret
        exact ⟨rfl, rfl⟩
      · have h3' : (c == 115) = false := by simpa using h3
        have HK : Hid (kindI c = if (namesT.find? (isLet c)).isSome then 4 else 0) := by show _ = _; unfold kindI; rw [if_neg h1, if_neg h2, if_neg h3]
        obtain ⟨t1, t2⟩ := enum_text c
        have hT := fun w => enumText_any c w
        clear h1 h2 h3
        cases hb : (namesT.find? (isLet c)).isSome
        · rw [t2 hb] at hT
          rw [hb] at HK
          clear t1 t2 hb
          go_enter Try.func15, Try.ntmps15
          go_wp2_with (go_at_call 31; refine (hT _).mono ?_; rintro e w' ⟨rfl, rfl⟩)
          go_ret
          exact ⟨by rw [HK.out]; rfl, rfl⟩
        · have e := bytes_empty _ (t1 hb)
          rw [hb] at HK
          clear t1 t2 hb
          generalize lookT enumT c = s at *
          go_enter Try.func15, Try.ntmps15
          go_wp2_with (go_at_call 31; refine (hT _).mono ?_; rintro e w' ⟨rfl, rfl⟩)
          go_ret
          exact ⟨by rw [HK.out]; rfl, rfl⟩

end Go.Proofs.Ytjpbiakbjpiceaa
