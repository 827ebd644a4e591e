/-
  Texts laid together in one: MathKf, Rdr, KitWords, Law02Raws, KitSpoilWords, Law02Apart.
-/
import Derived.WalkSpells
import Derived.Test.YtckhgdjcofpijabB08
import Derived.Test.YtckhgdjcofpijabB01
import Derived.Maps.AppendAt
import Derived.Maps.Range
import Derived.OneCell
import Derived.Deep.QuietTactic
import Derived.BigQuiet
import Derived.Test.YtckhgdjcofpijabProg
import Derived.Test.YtckhgdjcofpijabB06
import Derived.Deep.AppendLies
/-
  The walk among the functions, in plain mathematics: what holds at each of its labels, and what a step makes of it.
-/
namespace Go.Proofs.Ytckhgdjcofpijab
open Go.RowKit
set_option linter.unusedVariables false
set_option linter.unusedSimpArgs false
set_option maxRecDepth 10000

theorem endsB_iff {op : Int} : endsB op = true ↔ 249 ≤ op ∧ op ≤ 255 := by unfold endsB; simp
theorem endsB_false {op : Int} : endsB op = false ↔ ¬ (249 ≤ op ∧ op ≤ 255) := by rw [← endsB_iff, Bool.not_eq_true]
theorem ends_cases {op : Int} (h : 249 ≤ op ∧ op ≤ 255) : op = 249 ∨ op = 250 ∨ op = 251 ∨ op = 252 ∨ op = 253 ∨ op = 254 ∨ op = 255 := by omega
/-- Which number a kind has. -/
theorem kindOp_table (op : Int) : (op = 54 ∧ kindOp op = 1) ∨ (op = 55 ∧ kindOp op = 2) ∨ (op = 56 ∧ kindOp op = 4) ∨ (op = 248 ∧ kindOp op = 8) ∨ (op = 59 ∧ kindOp op = 16) ∨ (op = 245 ∧ kindOp op = 32) ∨ (op = 247 ∧ kindOp op = 128) ∨ (op = 246 ∧ kindOp op = 256) ∨ (op = 250 ∧ kindOp op = 3584) ∨ (op = 249 ∧ kindOp op = 2560) ∨ (op = 252 ∧ kindOp op = 512) ∨ (op = 253 ∧ kindOp op = 512) ∨ (op = 254 ∧ kindOp op = 512) ∨ (op = 255 ∧ kindOp op = 512) ∨ (op = 251 ∧ kindOp op = 1536) ∨ (op ≠ 54 ∧ op ≠ 55 ∧ op ≠ 56 ∧ op ≠ 248 ∧ op ≠ 59 ∧ op ≠ 245 ∧ op ≠ 247 ∧ op ≠ 246 ∧ op ≠ 250 ∧ op ≠ 249 ∧ op ≠ 252 ∧ op ≠ 253 ∧ op ≠ 254 ∧ op ≠ 255 ∧ op ≠ 251 ∧ kindOp op = 64) := by
  by_cases h54 : op = 54
  · subst h54; exact .inl ⟨rfl, by decide +kernel⟩
  by_cases h55 : op = 55
  · subst h55; exact .inr (.inl ⟨rfl, by decide +kernel⟩)
  by_cases h56 : op = 56
  · subst h56; exact .inr (.inr (.inl ⟨rfl, by decide +kernel⟩))
  by_cases h248 : op = 248
  · subst h248; exact .inr (.inr (.inr (.inl ⟨rfl, by decide +kernel⟩)))
  by_cases h59 : op = 59
  · subst h59; exact .inr (.inr (.inr (.inr (.inl ⟨rfl, by decide +kernel⟩))))
  by_cases h245 : op = 245
  · subst h245; exact .inr (.inr (.inr (.inr (.inr (.inl ⟨rfl, by decide +kernel⟩)))))
  by_cases h247 : op = 247
  · subst h247; exact .inr (.inr (.inr (.inr (.inr (.inr (.inl ⟨rfl, by decide +kernel⟩))))))
  by_cases h246 : op = 246
  · subst h246; exact .inr (.inr (.inr (.inr (.inr (.inr (.inr (.inl ⟨rfl, by decide +kernel⟩)))))))
  by_cases h250 : op = 250
  · subst h250; exact .inr (.inr (.inr (.inr (.inr (.inr (.inr (.inr (.inl ⟨rfl, by decide +kernel⟩))))))))
  by_cases h249 : op = 249
  · subst h249; exact .inr (.inr (.inr (.inr (.inr (.inr (.inr (.inr (.inr (.inl ⟨rfl, by decide +kernel⟩)))))))))
  by_cases h252 : op = 252
  · subst h252; exact .inr (.inr (.inr (.inr (.inr (.inr (.inr (.inr (.inr (.inr (.inl ⟨rfl, by decide +kernel⟩))))))))))
  by_cases h253 : op = 253
  · subst h253; exact .inr (.inr (.inr (.inr (.inr (.inr (.inr (.inr (.inr (.inr (.inr (.inl ⟨rfl, by decide +kernel⟩)))))))))))
  by_cases h254 : op = 254
  · subst h254; exact .inr (.inr (.inr (.inr (.inr (.inr (.inr (.inr (.inr (.inr (.inr (.inr (.inl ⟨rfl, by decide +kernel⟩))))))))))))
  by_cases h255 : op = 255
  · subst h255; exact .inr (.inr (.inr (.inr (.inr (.inr (.inr (.inr (.inr (.inr (.inr (.inr (.inr (.inl ⟨rfl, by decide +kernel⟩)))))))))))))
  by_cases h251 : op = 251
  · subst h251; exact .inr (.inr (.inr (.inr (.inr (.inr (.inr (.inr (.inr (.inr (.inr (.inr (.inr (.inr (.inl ⟨rfl, by decide +kernel⟩))))))))))))))
  have e : kindOp op = 64 := by
    unfold kindOp
    simp [h54, h55, h56, h248, h59, h245, h247, h246, h250, h249, h252, h253, h254, h255, h251]
  exact .inr (.inr (.inr (.inr (.inr (.inr (.inr (.inr (.inr (.inr (.inr (.inr (.inr (.inr (.inr (⟨h54, h55, h56, h248, h59, h245, h247, h246, h250, h249, h252, h253, h254, h255, h251, e⟩)))))))))))))))
theorem kindOp_one {op : Int} : kindOp op = 1 ↔ op = 54 := by
  constructor
  · intro h
    rcases kindOp_table op with ⟨e, q⟩ | ⟨e, q⟩ | ⟨e, q⟩ | ⟨e, q⟩ | ⟨e, q⟩ | ⟨e, q⟩ | ⟨e, q⟩ | ⟨e, q⟩ | ⟨e, q⟩ | ⟨e, q⟩ | ⟨e, q⟩ | ⟨e, q⟩ | ⟨e, q⟩ | ⟨e, q⟩ | ⟨e, q⟩ | ⟨n54, n55, n56, n248, n59, n245, n247, n246, n250, n249, n252, n253, n254, n255, n251, q⟩ <;> first | exact e | (rw [q] at h; exact absurd h (by decide))
  · intro h; subst h; decide +kernel
theorem kindOp_two {op : Int} : kindOp op = 2 ↔ op = 55 := by
  constructor
  · intro h
    rcases kindOp_table op with ⟨e, q⟩ | ⟨e, q⟩ | ⟨e, q⟩ | ⟨e, q⟩ | ⟨e, q⟩ | ⟨e, q⟩ | ⟨e, q⟩ | ⟨e, q⟩ | ⟨e, q⟩ | ⟨e, q⟩ | ⟨e, q⟩ | ⟨e, q⟩ | ⟨e, q⟩ | ⟨e, q⟩ | ⟨e, q⟩ | ⟨n54, n55, n56, n248, n59, n245, n247, n246, n250, n249, n252, n253, n254, n255, n251, q⟩ <;> first | exact e | (rw [q] at h; exact absurd h (by decide))
  · intro h; subst h; decide +kernel
theorem kindOp_four {op : Int} : kindOp op = 4 ↔ op = 56 := by
  constructor
  · intro h
    rcases kindOp_table op with ⟨e, q⟩ | ⟨e, q⟩ | ⟨e, q⟩ | ⟨e, q⟩ | ⟨e, q⟩ | ⟨e, q⟩ | ⟨e, q⟩ | ⟨e, q⟩ | ⟨e, q⟩ | ⟨e, q⟩ | ⟨e, q⟩ | ⟨e, q⟩ | ⟨e, q⟩ | ⟨e, q⟩ | ⟨e, q⟩ | ⟨n54, n55, n56, n248, n59, n245, n247, n246, n250, n249, n252, n253, n254, n255, n251, q⟩ <;> first | exact e | (rw [q] at h; exact absurd h (by decide))
  · intro h; subst h; decide +kernel
theorem kindOp_eight {op : Int} : kindOp op = 8 ↔ op = 248 := by
  constructor
  · intro h
    rcases kindOp_table op with ⟨e, q⟩ | ⟨e, q⟩ | ⟨e, q⟩ | ⟨e, q⟩ | ⟨e, q⟩ | ⟨e, q⟩ | ⟨e, q⟩ | ⟨e, q⟩ | ⟨e, q⟩ | ⟨e, q⟩ | ⟨e, q⟩ | ⟨e, q⟩ | ⟨e, q⟩ | ⟨e, q⟩ | ⟨e, q⟩ | ⟨n54, n55, n56, n248, n59, n245, n247, n246, n250, n249, n252, n253, n254, n255, n251, q⟩ <;> first | exact e | (rw [q] at h; exact absurd h (by decide))
  · intro h; subst h; decide +kernel
theorem kindOp_16 {op : Int} : kindOp op = 16 ↔ op = 59 := by
  constructor
  · intro h
    rcases kindOp_table op with ⟨e, q⟩ | ⟨e, q⟩ | ⟨e, q⟩ | ⟨e, q⟩ | ⟨e, q⟩ | ⟨e, q⟩ | ⟨e, q⟩ | ⟨e, q⟩ | ⟨e, q⟩ | ⟨e, q⟩ | ⟨e, q⟩ | ⟨e, q⟩ | ⟨e, q⟩ | ⟨e, q⟩ | ⟨e, q⟩ | ⟨n54, n55, n56, n248, n59, n245, n247, n246, n250, n249, n252, n253, n254, n255, n251, q⟩ <;> first | exact e | (rw [q] at h; exact absurd h (by decide))
  · intro h; subst h; decide +kernel
theorem kindOp_32 {op : Int} : kindOp op = 32 ↔ op = 245 := by
  constructor
  · intro h
    rcases kindOp_table op with ⟨e, q⟩ | ⟨e, q⟩ | ⟨e, q⟩ | ⟨e, q⟩ | ⟨e, q⟩ | ⟨e, q⟩ | ⟨e, q⟩ | ⟨e, q⟩ | ⟨e, q⟩ | ⟨e, q⟩ | ⟨e, q⟩ | ⟨e, q⟩ | ⟨e, q⟩ | ⟨e, q⟩ | ⟨e, q⟩ | ⟨n54, n55, n56, n248, n59, n245, n247, n246, n250, n249, n252, n253, n254, n255, n251, q⟩ <;> first | exact e | (rw [q] at h; exact absurd h (by decide))
  · intro h; subst h; decide +kernel
theorem kindOp_128 {op : Int} : kindOp op = 128 ↔ op = 247 := by
  constructor
  · intro h
    rcases kindOp_table op with ⟨e, q⟩ | ⟨e, q⟩ | ⟨e, q⟩ | ⟨e, q⟩ | ⟨e, q⟩ | ⟨e, q⟩ | ⟨e, q⟩ | ⟨e, q⟩ | ⟨e, q⟩ | ⟨e, q⟩ | ⟨e, q⟩ | ⟨e, q⟩ | ⟨e, q⟩ | ⟨e, q⟩ | ⟨e, q⟩ | ⟨n54, n55, n56, n248, n59, n245, n247, n246, n250, n249, n252, n253, n254, n255, n251, q⟩ <;> first | exact e | (rw [q] at h; exact absurd h (by decide))
  · intro h; subst h; decide +kernel
theorem kindOp_256 {op : Int} : kindOp op = 256 ↔ op = 246 := by
  constructor
  · intro h
    rcases kindOp_table op with ⟨e, q⟩ | ⟨e, q⟩ | ⟨e, q⟩ | ⟨e, q⟩ | ⟨e, q⟩ | ⟨e, q⟩ | ⟨e, q⟩ | ⟨e, q⟩ | ⟨e, q⟩ | ⟨e, q⟩ | ⟨e, q⟩ | ⟨e, q⟩ | ⟨e, q⟩ | ⟨e, q⟩ | ⟨e, q⟩ | ⟨n54, n55, n56, n248, n59, n245, n247, n246, n250, n249, n252, n253, n254, n255, n251, q⟩ <;> first | exact e | (rw [q] at h; exact absurd h (by decide))
  · intro h; subst h; decide +kernel
theorem kindOp_64 {op : Int} : kindOp op = 64 ↔ op ≠ 54 ∧ op ≠ 55 ∧ op ≠ 56 ∧ op ≠ 248 ∧ op ≠ 59 ∧ op ≠ 245 ∧ op ≠ 247 ∧ op ≠ 246 ∧ ¬ (249 ≤ op ∧ op ≤ 255) := by
  constructor
  · intro h
    rcases kindOp_table op with ⟨e, q⟩ | ⟨e, q⟩ | ⟨e, q⟩ | ⟨e, q⟩ | ⟨e, q⟩ | ⟨e, q⟩ | ⟨e, q⟩ | ⟨e, q⟩ | ⟨e, q⟩ | ⟨e, q⟩ | ⟨e, q⟩ | ⟨e, q⟩ | ⟨e, q⟩ | ⟨e, q⟩ | ⟨e, q⟩ | ⟨n54, n55, n56, n248, n59, n245, n247, n246, n250, n249, n252, n253, n254, n255, n251, q⟩ <;> first | (refine ⟨n54, n55, n56, n248, n59, n245, n247, n246, fun hr => ?_⟩; rcases ends_cases hr with e | e | e | e | e | e | e <;> first | exact n249 e | exact n250 e | exact n251 e | exact n252 e | exact n253 e | exact n254 e | exact n255 e) | (rw [q] at h; exact absurd h (by decide))
  · rintro ⟨h1, h2, h3, h4, h5, h6, h7, h8, h9⟩
    rcases kindOp_table op with ⟨e, q⟩ | ⟨e, q⟩ | ⟨e, q⟩ | ⟨e, q⟩ | ⟨e, q⟩ | ⟨e, q⟩ | ⟨e, q⟩ | ⟨e, q⟩ | ⟨e, q⟩ | ⟨e, q⟩ | ⟨e, q⟩ | ⟨e, q⟩ | ⟨e, q⟩ | ⟨e, q⟩ | ⟨e, q⟩ | ⟨n54, n55, n56, n248, n59, n245, n247, n246, n250, n249, n252, n253, n254, n255, n251, q⟩ <;> first | exact q | contradiction | (exact absurd (by rw [e]; decide) h9)
theorem kind_sel (op : Int) : (bits .and .u16 (kindOp op) 1024 == 0) = !(op == 250 || op == 251) := by
  rcases kindOp_table op with ⟨e, q⟩ | ⟨e, q⟩ | ⟨e, q⟩ | ⟨e, q⟩ | ⟨e, q⟩ | ⟨e, q⟩ | ⟨e, q⟩ | ⟨e, q⟩ | ⟨e, q⟩ | ⟨e, q⟩ | ⟨e, q⟩ | ⟨e, q⟩ | ⟨e, q⟩ | ⟨e, q⟩ | ⟨e, q⟩ | ⟨n54, n55, n56, n248, n59, n245, n247, n246, n250, n249, n252, n253, n254, n255, n251, q⟩ <;> rw [q] <;> first | (rw [e]; decide +kernel) | (rw [show (op == 250) = false by simpa using n250, show (op == 251) = false by simpa using n251]; decide +kernel)
theorem kind_loop (op : Int) : (bits .and .u16 (kindOp op) 2048 == 0) = !(op == 249 || op == 250) := by
  rcases kindOp_table op with ⟨e, q⟩ | ⟨e, q⟩ | ⟨e, q⟩ | ⟨e, q⟩ | ⟨e, q⟩ | ⟨e, q⟩ | ⟨e, q⟩ | ⟨e, q⟩ | ⟨e, q⟩ | ⟨e, q⟩ | ⟨e, q⟩ | ⟨e, q⟩ | ⟨e, q⟩ | ⟨e, q⟩ | ⟨e, q⟩ | ⟨n54, n55, n56, n248, n59, n245, n247, n246, n250, n249, n252, n253, n254, n255, n251, q⟩ <;> rw [q] <;> first | (rw [e]; decide +kernel) | (rw [show (op == 249) = false by simpa using n249, show (op == 250) = false by simpa using n250]; decide +kernel)
theorem kind_none : (bits .and .u16 0 512 == 0) = true ∧ (bits .and .u16 0 1024 == 0) = true ∧ (bits .and .u16 0 2048 == 0) = true := by decide +kernel

theorem cutTo_small (l : List InstT) : ∀ k, (cutTo l k).length ≤ k ∧ ∀ f ∈ cutTo l k, f.2.2.1.length ≤ k ∧ f.2.2.2.1.length ≤ k
  | 0 => ⟨Nat.le_refl _, fun f hf => by cases hf⟩
  | k + 1 => by
    obtain ⟨h1, h2⟩ := cutTo_small l k
    have last : ∀ g : FuncT → FuncT, (∀ f, (g f).2.2.1.length ≤ f.2.2.1.length + 1 ∧ (g f).2.2.2.1.length ≤ f.2.2.2.1.length + 1) → (onLast (cutTo l k) g).length ≤ k + 1 ∧ ∀ f ∈ onLast (cutTo l k) g, f.2.2.1.length ≤ k + 1 ∧ f.2.2.2.1.length ≤ k + 1 := by
      intro g hg
      generalize hfs : cutTo l k = fs at *
      rcases List.eq_nil_or_concat fs with e | ⟨fs', f, e⟩
      · subst e; simp [onLast]
      · rw [List.concat_eq_append] at e
        subst e
        rw [onLast_snoc]
        refine ⟨by simp at h1 ⊢; omega, fun f' hf => ?_⟩
        rcases List.mem_append.1 hf with hf | hf
        · have := h2 f' (List.mem_append.2 (.inl hf)); omega
        · rw [List.mem_singleton] at hf
          subst hf
          have := h2 f (by simp)
          have := hg f
          omega
    rw [cutTo]
    unfold stepC
    split
    · refine ⟨by simp; omega, fun f hf => ?_⟩
      rcases List.mem_append.1 hf with hf | hf
      · have := h2 f hf; omega
      · rw [List.mem_singleton] at hf; subst hf; simp
    · split
      · exact last _ (fun f => by simp [withParam])
      · split
        · exact last _ (fun f => by simp [withEnd])
        · split
          · exact last _ (fun f => by simp [withBlock])
          · split
            · refine last _ (fun f => ?_)
              have : (endLast f.2.2.2.1 ((k + 1 : Nat) : Int)).length ≤ f.2.2.2.1.length := by
                generalize f.2.2.2.1 = bs
                rcases List.eq_nil_or_concat bs with e | ⟨bs', b, e⟩
                · subst e; simp [endLast]
                · rw [List.concat_eq_append] at e; subst e; rw [endLast_snoc]; simp
              simp only [withTo]
              omega
            · exact ⟨by omega, fun f hf => by have := h2 f hf; omega⟩
theorem cutTo_last {l : List InstT} {k : Nat} {fs : List FuncT} {f : FuncT} (h : cutTo l k = fs ++ [f]) : fs.length < k ∧ f.2.2.1.length ≤ k ∧ f.2.2.2.1.length ≤ k := by
  obtain ⟨h1, h2⟩ := cutTo_small l k
  rw [h] at h1 h2
  have := h2 f (by simp)
  simp at h1
  omega

/-- The spans of the parts ahead of the functions, and the beginning of these. -/
def SpansF (l : List InstT) (ps : Nat → Int) (k : Nat) : Prop := ∀ i, i ≤ 16 → ps i = cntP l ((i + 1) / 2) k
theorem SpansF.next {l : List InstT} {ps : Nat → Int} {k : Nat} (h : SpansF l ps k) (h8 : partI (nthI l k) = 8) : SpansF l ps (k + 1) := fun i hi => by
  rw [cntP_more (by rw [h8]; omega)]; exact h i hi

/-- Outside of functions. -/
def AtOut (l : List InstT) (k : Nat) : Prop := Fc l k ∧ (aheadO l k = 0 ∨ aheadO l k = 56)
/-- Among the parameters. -/
def AtPar (l : List InstT) (k : Nat) : Prop := Fc l k ∧ (aheadO l k = 54 ∨ aheadO l k = 55) ∧ ∃ fs f, cutTo l k = fs ++ [f]
/-- At a label. -/
def AtBlk (l : List InstT) (k : Nat) (head : Int) : Prop := Fc l k ∧ kindAt l k = 8 ∧ ((aheadO l k = 54 ∨ aheadO l k = 55) ∧ head = 16 ∨ endsB (aheadO l k) = true ∧ head = 32) ∧ ∃ fs f, cutTo l k = fs ++ [f]
/-- Behind a label, among variables or phis. -/
def AtHds (l : List InstT) (k : Nat) (head : Int) : Prop := Fc l k ∧ (head = 16 ∧ (aheadO l k = 248 ∨ aheadO l k = 59) ∧ firstB l (k - 1) = true ∨ head = 32 ∧ (aheadO l k = 248 ∨ aheadO l k = 245) ∧ firstB l (k - 1) = false) ∧ ∃ fs f bs b, cutTo l k = fs ++ [f] ∧ f.2.2.2.1 = bs ++ [b]
/-- Within a block. -/
def inBlk (ah : Int) : Prop := ah ≠ 0 ∧ ah ≠ 54 ∧ ah ≠ 55 ∧ ah ≠ 56 ∧ ah ≠ 246 ∧ ah ≠ 247 ∧ ¬ (249 ≤ ah ∧ ah ≤ 255)
def AtBody (l : List InstT) (k : Nat) : Prop := Fc l k ∧ inBlk (aheadO l k) ∧ (k < l.length → partI (nthI l k) = 8 → (nthI l k).1 = 59 ∨ (nthI l k).1 = 245 → mayF (nthI l k).1 (aheadO l k) (firstB l (k - 1)) = false) ∧ ∃ fs f bs b, cutTo l k = fs ++ [f] ∧ f.2.2.2.1 = bs ++ [b]
/-- Behind a merge, at what must end the block; or at what ends it. -/
def AtEnd (l : List InstT) (k : Nat) : Prop := Fc l k ∧ mayF (nthI l k).1 (aheadO l k) (firstB l (k - 1)) = true ∧ partI (nthI l k) = 8 ∧ k < l.length ∧ endsB (nthI l k).1 = true ∧ ∃ fs f bs b, cutTo l k = fs ++ [f] ∧ f.2.2.2.1 = bs ++ [b]
/-- Behind a block. -/
def AtAft (l : List InstT) (k : Nat) : Prop := Fc l k ∧ endsB (aheadO l k) = true ∧ ∃ fs f, cutTo l k = fs ++ [f]

theorem ahead_at {l : List InstT} {k : Nat} (h : aheadO l k ≠ 0) : 1 ≤ k ∧ (nthI l (k - 1)).1 = aheadO l k := by
  unfold aheadO at *
  split at h
  · next h1 => rw [if_pos h1]; exact ⟨h1.1, rfl⟩
  · exact absurd rfl h

theorem AtOut.end {l : List InstT} {k : Nat} (h : AtOut l k) (hp : partAt l k = 9) : k = l.length ∧ okTo l k ∧ modelsN l k ≠ 0 ∧ (aheadO l k = 0 ∨ aheadO l k = 56) :=
  ⟨by have := partAt_nine hp; have := h.1.le; omega, h.1.ok, h.1.models, h.2⟩
theorem AtOut.wrong {l : List InstT} {k : Nat} (h : AtOut l k) (hp : partAt l k ≠ 9) (hk : kindAt l k ≠ 1) : wrongAt l k := by
  refine h.1.fail (fun hl h8 => ?_) (.inr hp)
  rw [kindAt_eight hl h8] at hk
  have h54 : (nthI l k).1 ≠ 54 := fun e => hk (kindOp_one.2 e)
  rcases h.2 with e | e <;> rw [e] <;> unfold mayF <;> simp [h54, endsB]
theorem AtOut.next {l : List InstT} {k : Nat} (h : AtOut l k) (hk : kindAt l k = 1) : k < l.length ∧ partI (nthI l k) = 8 ∧ AtPar l (k + 1) ∧ cutTo l (k + 1) = cutTo l k ++ [((nthI l k).2.2.1, (k : Int), [], [], 0)] := by
  obtain ⟨hl, h8, e⟩ := kind_part (l := l) (k := k) (by omega)
  rw [e] at hk
  have h54 := kindOp_one.1 hk
  have hm : mayF (nthI l k).1 (aheadO l k) (firstB l (k - 1)) = true := by
    rw [h54]; unfold mayF; rcases h.2 with e | e <;> rw [e] <;> rfl
  obtain ⟨h1, h2⟩ := h.1.next hl h8 hm
  have hc : cutTo l (k + 1) = cutTo l k ++ [((nthI l k).2.2.1, (k : Int), [], [], 0)] := by rw [cutTo]; unfold stepC; rw [if_pos h54]
  exact ⟨hl, h8, ⟨h1, .inl (h2.trans h54), _, _, hc⟩, hc⟩
theorem AtPar.par {l : List InstT} {k : Nat} (h : AtPar l k) (hk : kindAt l k = 2) : k < l.length ∧ partI (nthI l k) = 8 ∧ AtPar l (k + 1) ∧ ∀ fs f, cutTo l k = fs ++ [f] → cutTo l (k + 1) = fs ++ [withParam k f] := by
  obtain ⟨hl, h8, e⟩ := kind_part (l := l) (k := k) (by omega)
  rw [e] at hk
  have h55 := kindOp_two.1 hk
  have hm : mayF (nthI l k).1 (aheadO l k) (firstB l (k - 1)) = true := by
    rw [h55]; unfold mayF; rcases h.2.1 with e | e <;> rw [e] <;> rfl
  obtain ⟨h1, h2⟩ := h.1.next hl h8 hm
  have hc : ∀ fs f, cutTo l k = fs ++ [f] → cutTo l (k + 1) = fs ++ [withParam k f] := fun fs f e => by
    rw [cutTo]; unfold stepC; rw [if_neg (by omega), if_pos h55, e, onLast_snoc]
  obtain ⟨fs, f, e⟩ := h.2.2
  exact ⟨hl, h8, ⟨h1, .inr (h2.trans h55), _, _, hc fs f e⟩, hc⟩
theorem AtPar.blk {l : List InstT} {k : Nat} (h : AtPar l k) (hk : kindAt l k = 8) : AtBlk l k 16 := ⟨h.1, hk, .inl ⟨h.2.1, rfl⟩, h.2.2⟩
theorem AtPar.wrong {l : List InstT} {k : Nat} (h : AtPar l k) (h2 : kindAt l k ≠ 2) (h3 : kindAt l k ≠ 8) : wrongAt l k := by
  have ha := h.2.1
  refine h.1.fail (fun hl h8 => ?_) (.inl (by omega))
  rw [kindAt_eight hl h8] at h2 h3
  have k1 : (nthI l k).1 ≠ 55 := fun e => h2 (kindOp_two.2 e)
  have k2 : (nthI l k).1 ≠ 248 := fun e => h3 (kindOp_eight.2 e)
  rcases ha with e | e <;> rw [e] <;> unfold mayF <;> simp [k1, k2, endsB]
theorem AtBlk.next {l : List InstT} {k : Nat} {head : Int} (h : AtBlk l k head) : k < l.length ∧ partI (nthI l k) = 8 ∧ AtHds l (k + 1) head ∧ ∀ fs f, cutTo l k = fs ++ [f] → cutTo l (k + 1) = fs ++ [withBlock (nthI l k).2.2.1 k f] := by
  obtain ⟨hF, hk, ha, fs0, f0, hcut⟩ := h
  obtain ⟨hl, h8, e⟩ := kind_part (l := l) (k := k) (by omega)
  rw [e] at hk
  have h248 := kindOp_eight.1 hk
  have hne : aheadO l k ≠ 0 := by
    rcases ha with ⟨ha, _⟩ | ⟨ha, _⟩
    · omega
    · have := endsB_iff.1 ha; omega
  obtain ⟨hk1, hah⟩ := ahead_at hne
  have hm : mayF (nthI l k).1 (aheadO l k) (firstB l (k - 1)) = true := by
    rw [h248]; unfold mayF
    rcases ha with ⟨ha | ha, _⟩ | ⟨ha, _⟩
    · rw [ha]; rfl
    · rw [ha]; rfl
    · simp [ha]
  obtain ⟨h1, h2⟩ := hF.next hl h8 hm
  have hc : ∀ fs f, cutTo l k = fs ++ [f] → cutTo l (k + 1) = fs ++ [withBlock (nthI l k).2.2.1 k f] := fun fs f e => by
    rw [cutTo]; unfold stepC; rw [if_neg (by omega), if_neg (by omega), if_neg (by omega), if_pos h248, e, onLast_snoc]
  have hf := (firstB_label hk1 h248).1
  rw [hah] at hf
  refine ⟨hl, h8, ⟨h1, ?_, _, _, _, _, hc fs0 f0 hcut, rfl⟩, hc⟩
  rw [Nat.add_sub_cancel, h2, h248, hf]
  rcases ha with ⟨ha, e⟩ | ⟨ha, e⟩
  · exact .inl ⟨e, .inl rfl, by simpa using ha⟩
  · have := endsB_iff.1 ha
    exact .inr ⟨e, .inl rfl, by simp; omega⟩
theorem AtHds.next {l : List InstT} {k : Nat} {head : Int} (h : AtHds l k head) (hk : kindAt l k = head) : k < l.length ∧ partI (nthI l k) = 8 ∧ AtHds l (k + 1) head ∧ cutTo l (k + 1) = cutTo l k := by
  obtain ⟨hF, ha, hcut⟩ := h
  obtain ⟨hl, h8, e⟩ := kind_part (l := l) (k := k) (by omega)
  rw [e] at hk
  have hne : aheadO l k ≠ 0 := by omega
  obtain ⟨hk1, hah⟩ := ahead_at hne
  have hop : (head = 16 ∧ (nthI l k).1 = 59) ∨ (head = 32 ∧ (nthI l k).1 = 245) := by
    rcases ha with ⟨e1, _⟩ | ⟨e1, _⟩
    · exact .inl ⟨e1, kindOp_16.1 (by omega)⟩
    · exact .inr ⟨e1, kindOp_32.1 (by omega)⟩
  have hm : mayF (nthI l k).1 (aheadO l k) (firstB l (k - 1)) = true := by
    rcases ha with ⟨e1, ha, hf⟩ | ⟨e1, ha, hf⟩
    · have h59 : (nthI l k).1 = 59 := by omega
      rw [h59, hf]; unfold mayF; rcases ha with ha | ha <;> rw [ha] <;> rfl
    · have h245 : (nthI l k).1 = 245 := by omega
      rw [h245, hf]; unfold mayF; rcases ha with ha | ha <;> rw [ha] <;> rfl
  obtain ⟨h1, h2⟩ := hF.next hl h8 hm
  have hc : cutTo l (k + 1) = cutTo l k := by
    rw [cutTo]
    refine stepC_other (by omega) (by omega) (by omega) (by omega) ?_
    unfold endsB; simp; omega
  have hf := (firstB_other hk1 (show (nthI l k).1 ≠ 248 by omega)).1
  refine ⟨hl, h8, ⟨h1, ?_, by rw [hc]; exact hcut⟩, hc⟩
  rw [Nat.add_sub_cancel, h2, hf]
  rcases ha with ⟨e1, _, hf⟩ | ⟨e1, _, hf⟩
  · exact .inl ⟨e1, .inr (by omega), hf⟩
  · exact .inr ⟨e1, .inr (by omega), hf⟩
theorem AtHds.body {l : List InstT} {k : Nat} {head : Int} (h : AtHds l k head) (hk : kindAt l k ≠ head) : AtBody l k := by
  obtain ⟨hF, ha, hcut⟩ := h
  refine ⟨hF, by unfold inBlk; omega, fun hl h8 ho => ?_, hcut⟩
  rw [kindAt_eight hl h8] at hk
  rcases ha with ⟨e1, ha, hf⟩ | ⟨e1, ha, hf⟩
  · have h59 : (nthI l k).1 ≠ 59 := fun e => hk (by rw [e1]; exact kindOp_16.2 e)
    have h245 : (nthI l k).1 = 245 := by omega
    rw [h245, hf]; unfold mayF; rcases ha with ha | ha <;> rw [ha] <;> rfl
  · have h245 : (nthI l k).1 ≠ 245 := fun e => hk (by rw [e1]; exact kindOp_32.2 e)
    have h59 : (nthI l k).1 = 59 := by omega
    rw [h59, hf]; unfold mayF; rcases ha with ha | ha <;> rw [ha] <;> rfl
theorem mayF_in {op ah : Int} {fs : Bool} (h : inBlk ah) (h1 : op ≠ 54) (h2 : op ≠ 55) (h3 : op ≠ 56) (h4 : op ≠ 248) (h5 : op ≠ 59) (h6 : op ≠ 245) : mayF op ah fs = true := by
  obtain ⟨a0, a1, a2, a3, a4, a5, a6⟩ := h
  have he : endsB ah = false := endsB_false.2 a6
  unfold mayF
  simp [h1, h2, h3, h4, h5, h6, a0, a1, a2, a3, a4, a5, he]
theorem mayF_out {op ah : Int} {fs : Bool} (h : inBlk ah) (h1 : op = 54 ∨ op = 55 ∨ op = 56 ∨ op = 248) : mayF op ah fs = false := by
  obtain ⟨a0, a1, a2, a3, a4, a5, a6⟩ := h
  have he : endsB ah = false := endsB_false.2 a6
  unfold mayF
  rcases h1 with e | e | e | e <;> subst e <;> simp [a0, a1, a2, a3, he]
theorem op_ne_zero {x : InstT} (h : partI x = 8) : x.1 ≠ 0 := fun e => by
  unfold partI at h
  rw [if_neg (by omega), e] at h
  exact partO_zero h
theorem AtBody.step {l : List InstT} {k : Nat} (h : AtBody l k) (hl : k < l.length) (h8 : partI (nthI l k) = 8) (h1 : (nthI l k).1 ≠ 54) (h2 : (nthI l k).1 ≠ 55) (h3 : (nthI l k).1 ≠ 56) (h4 : (nthI l k).1 ≠ 248) (h5 : (nthI l k).1 ≠ 59) (h6 : (nthI l k).1 ≠ 245) (h7 : endsB (nthI l k).1 = false) : Fc l (k + 1) ∧ aheadO l (k + 1) = (nthI l k).1 ∧ cutTo l (k + 1) = cutTo l k := by
  obtain ⟨k1, k2⟩ := h.1.next hl h8 (mayF_in h.2.1 h1 h2 h3 h4 h5 h6)
  exact ⟨k1, k2, by rw [cutTo]; exact stepC_other h1 h2 h3 h4 h7⟩
theorem AtBody.plain {l : List InstT} {k : Nat} (h : AtBody l k) (hk : kindAt l k = 64) : k < l.length ∧ partI (nthI l k) = 8 ∧ AtBody l (k + 1) ∧ cutTo l (k + 1) = cutTo l k := by
  obtain ⟨hl, h8, e⟩ := kind_part (l := l) (k := k) (by omega)
  rw [e] at hk
  obtain ⟨n1, n2, n3, n4, n5, n6, n7, n8, n9⟩ := kindOp_64.1 hk
  have he : endsB (nthI l k).1 = false := endsB_false.2 n9
  obtain ⟨q1, q2, q3⟩ := h.step hl h8 n1 n2 n3 n4 n5 n6 he
  refine ⟨hl, h8, ⟨q1, ?_, fun _ _ ho => ?_, by rw [q3]; exact h.2.2.2⟩, q3⟩
  · rw [q2]; exact ⟨op_ne_zero h8, n1, n2, n3, n8, n7, n9⟩
  · rw [q2]
    unfold mayF
    rcases ho with ho | ho <;> simp [ho, n4, n5, n6]
theorem AtBody.sel {l : List InstT} {k : Nat} (h : AtBody l k) (hk : kindAt l k = 128) : k < l.length ∧ partI (nthI l k) = 8 ∧ Fc l (k + 1) ∧ aheadO l (k + 1) = 247 ∧ cutTo l (k + 1) = cutTo l k := by
  obtain ⟨hl, h8, e⟩ := kind_part (l := l) (k := k) (by omega)
  rw [e] at hk
  have h247 := kindOp_128.1 hk
  obtain ⟨q1, q2, q3⟩ := h.step hl h8 (by omega) (by omega) (by omega) (by omega) (by omega) (by omega) (by unfold endsB; simp; omega)
  exact ⟨hl, h8, q1, q2.trans h247, q3⟩
theorem AtBody.loop {l : List InstT} {k : Nat} (h : AtBody l k) (hk : kindAt l k = 256) : k < l.length ∧ partI (nthI l k) = 8 ∧ Fc l (k + 1) ∧ aheadO l (k + 1) = 246 ∧ cutTo l (k + 1) = cutTo l k := by
  obtain ⟨hl, h8, e⟩ := kind_part (l := l) (k := k) (by omega)
  rw [e] at hk
  have h246 := kindOp_256.1 hk
  obtain ⟨q1, q2, q3⟩ := h.step hl h8 (by omega) (by omega) (by omega) (by omega) (by omega) (by omega) (by unfold endsB; simp; omega)
  exact ⟨hl, h8, q1, q2.trans h246, q3⟩
/-- What must end a block, behind a selection's merge. -/
theorem sel_end {l : List InstT} {k : Nat} (hF : Fc l k) (ha : aheadO l k = 247) : (bits .and .u16 (kindAt l k) 1024 == 0) = true ∧ wrongAt l k ∨ (bits .and .u16 (kindAt l k) 1024 == 0) = false ∧ k < l.length ∧ partI (nthI l k) = 8 ∧ endsB (nthI l k).1 = true ∧ mayF (nthI l k).1 (aheadO l k) (firstB l (k - 1)) = true := by
  by_cases hl : k < l.length ∧ partI (nthI l k) = 8
  · rw [kindAt_eight hl.1 hl.2, kind_sel]
    by_cases ho : (nthI l k).1 = 250 ∨ (nthI l k).1 = 251
    · refine .inr ⟨by rcases ho with e | e <;> rw [e] <;> rfl, hl.1, hl.2, by rw [endsB_iff]; omega, ?_⟩
      rw [ha]; rcases ho with e | e <;> rw [e] <;> rfl
    · refine .inl ⟨by simp; omega, hF.fail (fun _ _ => ?_) (.inl (by omega))⟩
      have n1 : (nthI l k).1 ≠ 250 := fun e => ho (.inl e)
      have n2 : (nthI l k).1 ≠ 251 := fun e => ho (.inr e)
      rw [ha]; unfold mayF; simp [n1, n2, endsB]
  · have hz : kindAt l k = 0 := by
      unfold kindAt kindX
      split
      · next h1 => rw [if_neg (fun e => hl ⟨h1, e⟩)]
      · rfl
    rw [hz]
    exact .inl ⟨kind_none.2.1, hF.fail (fun h1 h2 => absurd ⟨h1, h2⟩ hl) (.inl (by omega))⟩
theorem loop_end {l : List InstT} {k : Nat} (hF : Fc l k) (ha : aheadO l k = 246) : (bits .and .u16 (kindAt l k) 2048 == 0) = true ∧ wrongAt l k ∨ (bits .and .u16 (kindAt l k) 2048 == 0) = false ∧ k < l.length ∧ partI (nthI l k) = 8 ∧ endsB (nthI l k).1 = true ∧ mayF (nthI l k).1 (aheadO l k) (firstB l (k - 1)) = true := by
  by_cases hl : k < l.length ∧ partI (nthI l k) = 8
  · rw [kindAt_eight hl.1 hl.2, kind_loop]
    by_cases ho : (nthI l k).1 = 249 ∨ (nthI l k).1 = 250
    · refine .inr ⟨by rcases ho with e | e <;> rw [e] <;> rfl, hl.1, hl.2, by rw [endsB_iff]; omega, ?_⟩
      rw [ha]; rcases ho with e | e <;> rw [e] <;> rfl
    · refine .inl ⟨by simp; omega, hF.fail (fun _ _ => ?_) (.inl (by omega))⟩
      have n1 : (nthI l k).1 ≠ 249 := fun e => ho (.inl e)
      have n2 : (nthI l k).1 ≠ 250 := fun e => ho (.inr e)
      rw [ha]; unfold mayF; simp [n1, n2, endsB]
  · have hz : kindAt l k = 0 := by
      unfold kindAt kindX
      split
      · next h1 => rw [if_neg (fun e => hl ⟨h1, e⟩)]
      · rfl
    rw [hz]
    exact .inl ⟨kind_none.2.2, hF.fail (fun h1 h2 => absurd ⟨h1, h2⟩ hl) (.inl (by omega))⟩
theorem body_end {l : List InstT} {k : Nat} (h : AtBody l k) (h64 : kindAt l k ≠ 64) (h128 : kindAt l k ≠ 128) (h256 : kindAt l k ≠ 256) : (bits .and .u16 (kindAt l k) 512 == 0) = true ∧ wrongAt l k ∨ (bits .and .u16 (kindAt l k) 512 == 0) = false ∧ k < l.length ∧ partI (nthI l k) = 8 ∧ endsB (nthI l k).1 = true ∧ mayF (nthI l k).1 (aheadO l k) (firstB l (k - 1)) = true := by
  have hb := h.2.1
  have hne : aheadO l k ≠ 0 ∧ aheadO l k ≠ 56 := ⟨hb.1, hb.2.2.2.1⟩
  by_cases hl : k < l.length ∧ partI (nthI l k) = 8
  · rw [kindAt_eight hl.1 hl.2] at h64 h128 h256 ⊢
    rw [kind_ends]
    cases he : endsB (nthI l k).1 with
    | true =>
      have := endsB_iff.1 he
      exact .inr ⟨rfl, hl.1, hl.2, rfl, mayF_in hb (by omega) (by omega) (by omega) (by omega) (by omega) (by omega)⟩
    | false =>
      refine .inl ⟨rfl, h.1.fail (fun _ _ => ?_) (.inl hne)⟩
      by_cases hs : (nthI l k).1 = 54 ∨ (nthI l k).1 = 55 ∨ (nthI l k).1 = 56 ∨ (nthI l k).1 = 248
      · exact mayF_out hb hs
      · refine h.2.2.1 hl.1 hl.2 ?_
        have n1 : (nthI l k).1 ≠ 247 := fun e => h128 (kindOp_128.2 e)
        have n2 : (nthI l k).1 ≠ 246 := fun e => h256 (kindOp_256.2 e)
        have n3 : ¬ (249 ≤ (nthI l k).1 ∧ (nthI l k).1 ≤ 255) := fun e => by rw [endsB_iff.2 e] at he; cases he
        by_cases q1 : (nthI l k).1 = 59
        · exact .inl q1
        · by_cases q2 : (nthI l k).1 = 245
          · exact .inr q2
          · exact absurd (kindOp_64.2 ⟨fun e => hs (.inl e), fun e => hs (.inr (.inl e)), fun e => hs (.inr (.inr (.inl e))), fun e => hs (.inr (.inr (.inr e))), q1, q2, n1, n2, n3⟩) h64
  · have hz : kindAt l k = 0 := by
      unfold kindAt kindX
      split
      · next h1 => rw [if_neg (fun e => hl ⟨h1, e⟩)]
      · rfl
    rw [hz]
    exact .inl ⟨kind_none.1, h.1.fail (fun h1 h2 => absurd ⟨h1, h2⟩ hl) (.inl hne)⟩
theorem AtEnd.next {l : List InstT} {k : Nat} (h : AtEnd l k) : AtAft l (k + 1) ∧ ∀ fs f, cutTo l k = fs ++ [f] → cutTo l (k + 1) = fs ++ [withTo ((k + 1 : Nat) : Int) f] := by
  obtain ⟨hF, hm, h8, hl, he, fs0, f0, _, _, hcut, _⟩ := h
  obtain ⟨q1, q2⟩ := hF.next hl h8 hm
  have hr := endsB_iff.1 he
  have hc : ∀ fs f, cutTo l k = fs ++ [f] → cutTo l (k + 1) = fs ++ [withTo ((k + 1 : Nat) : Int) f] := fun fs f e => by
    rw [cutTo]; unfold stepC; rw [if_neg (by omega), if_neg (by omega), if_neg (by omega), if_neg (by omega), if_pos he, e, onLast_snoc]
  exact ⟨⟨q1, by rw [q2]; exact he, _, _, hc fs0 f0 hcut⟩, hc⟩
theorem AtAft.blk {l : List InstT} {k : Nat} (h : AtAft l k) (hk : kindAt l k = 8) : AtBlk l k 32 := ⟨h.1, hk, .inr ⟨h.2.1, rfl⟩, h.2.2⟩
theorem AtAft.fin {l : List InstT} {k : Nat} (h : AtAft l k) (hk : kindAt l k = 4) : k < l.length ∧ partI (nthI l k) = 8 ∧ AtOut l (k + 1) ∧ ∀ fs f, cutTo l k = fs ++ [f] → cutTo l (k + 1) = fs ++ [withEnd k f] := by
  obtain ⟨hl, h8, e⟩ := kind_part (l := l) (k := k) (by omega)
  rw [e] at hk
  have h56 := kindOp_four.1 hk
  obtain ⟨q1, q2⟩ := h.1.next hl h8 (by rw [h56]; unfold mayF; simpa using h.2.1)
  refine ⟨hl, h8, ⟨q1, .inr (q2.trans h56)⟩, fun fs f e => ?_⟩
  rw [cutTo]; unfold stepC; rw [if_neg (by omega), if_neg (by omega), if_pos h56, e, onLast_snoc]
theorem AtAft.wrong {l : List InstT} {k : Nat} (h : AtAft l k) (h1 : kindAt l k ≠ 8) (h2 : kindAt l k ≠ 4) : wrongAt l k := by
  have hr := endsB_iff.1 h.2.1
  refine h.1.fail (fun hl h8 => ?_) (.inl (by omega))
  rw [kindAt_eight hl h8] at h1 h2
  have k1 : (nthI l k).1 ≠ 248 := fun e => h1 (kindOp_eight.2 e)
  have k2 : (nthI l k).1 ≠ 56 := fun e => h2 (kindOp_four.2 e)
  have a0 : aheadO l k ≠ 0 := by omega
  have a1 : aheadO l k ≠ 54 := by omega
  have a2 : aheadO l k ≠ 55 := by omega
  have a3 : aheadO l k ≠ 56 := by omega
  unfold mayF
  simp [k1, k2, a0, a1, a2, a3, h.2.1]
end Go.Proofs.Ytckhgdjcofpijab

/-
  A reader in memory: its two cells lie in one block; what was there before it turns in that block alone. And what a slice of a list is.
-/
namespace Go.Proofs.Ytckhgdjcofpijab
open Go.RowKit

/-- W0: the world in which the reader was made; wr: a later one. -/
structure Rd (T : TypeId) (W0 wr : World) (gr : Nat) (v : Value) (p : Nat) : Prop where
  grown : W0.grownBy wr (some gr)
  box : wr.heap[gr]? = some (.cells #[v, .int .i64 (p : Int)] T (0, 0))

theorem cell_of_two {w : World} {g : Nat} {a b : Value} {T : TypeId} (h : w.heap[g]? = some (.cells #[a, b] T (0, 0))) : w.cell? ⟨g, 0, none⟩ = some a ∧ w.cell? ⟨g, 1, none⟩ = some b ∧ w.frozen? ⟨g, 1, none⟩ = false := by
  refine ⟨?_, ?_, ?_⟩ <;> simp [World.cell?, World.frozen?, h]

theorem two_setCell {w : World} {g : Nat} {a b : Value} {T : TypeId} (h : w.heap[g]? = some (.cells #[a, b] T (0, 0))) (u : Value) : (w.setCell ⟨g, 1, none⟩ u).heap[g]? = some (.cells #[a, u] T (0, 0)) := by
  simp [World.setCell, Array.getElem?_modify, h]

theorem grown_setCell (w : World) (g j : Nat) (u : Value) : w.grownBy (w.setCell ⟨g, j, none⟩ u) (some g) :=
  ⟨rfl, rfl, rfl, by simp [World.setCell], fun k _ hne => Below.heap_setCell _ _ _ _ (fun e => hne (by rw [e]))⟩

theorem Rd.set {T : TypeId} {W0 wr : World} {gr : Nat} {v : Value} {p : Nat} (h : Rd T W0 wr gr v p) (q : Nat) (u : Int) (hu : u = (q : Int)) : Rd T W0 (wr.setCell ⟨gr, 1, none⟩ (.int .i64 u)) gr v q := by
  subst hu
  exact ⟨h.grown.trans (grown_setCell wr gr 1 _), two_setCell h.box _⟩

theorem Rd.lt {T : TypeId} {W0 wr : World} {gr : Nat} {v : Value} {p : Nat} (h : Rd T W0 wr gr v p) : gr < wr.heap.size := (Array.getElem?_eq_some_iff.1 h.box).1

/-- Where nothing that is there turns. -/
theorem Rd.below {T : TypeId} {W0 wr w' : World} {gr : Nat} {v : Value} {p : Nat} (h : Rd T W0 wr gr v p) (hb : Below wr.heap.size wr w') : Rd T W0 w' gr v p := by
  refine ⟨⟨hb.os.trans h.grown.os, hb.tape.trans h.grown.tape, hb.output.trans h.grown.output, Nat.le_trans h.grown.size hb.size, fun k hk hne => ?_⟩, by rw [hb.block gr h.lt]; exact h.box⟩
  rw [hb.block k (Nat.lt_of_lt_of_le hk h.grown.size)]
  exact h.grown.block k hk hne

/-- Where a block alone turns that is new since the reader was looked at. -/
theorem Rd.far {T : TypeId} {W0 w' w'' : World} {gr g : Nat} {v : Value} {p : Nat} (h : Rd T W0 w' gr v p) (h0 : W0.heap.size ≤ g) (hg : gr < g) (hgr : w'.grownBy w'' (some g)) : Rd T W0 w'' gr v p := by
  refine ⟨h.grown.andThen hgr (fun j hj => by cases hj; exact .inl h0), ?_⟩
  rw [hgr.block gr h.lt (fun e => by cases e; omega)]
  exact h.box

/-- The reader's words are as they were. -/
theorem Rd.view {T : TypeId} {W0 wr : World} {gr : Nat} {v : Value} {p : Nat} (h : Rd T W0 wr gr v p) {a : Option Addr} {zs : List Int} (hv : View .u32 W0 a zs) (hne : ∀ b off s, a = some ⟨b, off, s⟩ → b ≠ gr) : View .u32 wr a zs := by
  intro j hj
  obtain ⟨b, off, e, hlt, hc⟩ := hv j hj
  refine ⟨b, off, e, Nat.lt_of_lt_of_le hlt h.grown.size, ?_⟩
  rw [← hc]
  exact World.cell?_of_block (w := W0) (h.grown.block b hlt (fun e' => hne b off none e (by cases e'; rfl)))

/-- What is cut off at the front of a list. -/
theorem View.drop {k : IntKind} {w : World} {b off : Nat} {zs : List Int} (h : View k w (some ⟨b, off, none⟩) zs) (p : Nat) : View k w (some ⟨b, off + p, none⟩) (zs.drop p) := by
  intro j hj
  rw [List.length_drop] at hj
  obtain ⟨b', off', e, hb, hc⟩ := h (p + j) (by omega)
  simp at e
  obtain ⟨rfl, rfl⟩ := e
  refine ⟨b, off + p, rfl, hb, ?_⟩
  rw [Nat.add_assoc, hc]
  simp [nth, List.getD]

/-- The address of a slice that is cut at its front. -/
def cutA (a : Option Addr) (cap p : Nat) : Option Addr := if cap = p then a else a.map (·.add p)

theorem View.cut {k : IntKind} {w : World} {a : Option Addr} {cap : Nat} {zs : List Int} (h : View k w a zs) (hcap : zs.length ≤ cap) (p : Nat) : View k w (cutA a cap p) (zs.drop p) := by
  by_cases hp : p < zs.length
  · obtain ⟨b, off, rfl, _, _⟩ := h p hp
    rw [cutA, if_neg (by omega)]
    have := View.drop h p
    rw [Option.map_some, Addr.add_lit]
    exact this
  · rw [List.drop_of_length_le (by omega)]
    exact view_nil

theorem nth_drop (zs : List Int) (p j : Nat) : nth (zs.drop p) j = nth zs (p + j) := by simp [nth, List.getD]
theorem within_drop {m : Int} {zs : List Int} {n : Nat} (h : Within m zs) : Within m (zs.drop n) := fun z hz => h z (List.mem_of_mem_drop hz)

/-- What the call owns, nil or not, can be read. -/
theorem View.ofOwn {k : IntKind} {w : World} {B e n cap : Nat} {a : Option Addr} {zs : List Int} (h : w.ownsRow B e 1 (.slice a n cap) n (zs.map (Value.int k))) (hl : zs.length = n) : View k w a zs := by
  rcases h.2 with ⟨_, hn⟩ | ⟨g, cap', cur, hv, _⟩
  · have : zs = [] := List.eq_nil_of_length_eq_zero (by rw [hl]; simpa using hn)
    subst this; exact view_nil
  · cases hv; exact View.ofRow h hl

end Go.Proofs.Ytckhgdjcofpijab

/-
  Words of the kit answers true of two lists that are the same.
-/
namespace Go.Proofs.Ytckhgdjcofpijab
open Go.RowKit
set_option maxRecDepth 10000

end Go.Proofs.Ytckhgdjcofpijab

/-
  raws of the laws of layer 2 answers true of two lists of instructions that are the same; head answers the words of a head.
-/
namespace Go.Proofs.Ytckhgdjcofpijab
open Go.RowKit
set_option maxRecDepth 10000

end Go.Proofs.Ytckhgdjcofpijab

/-
  SpoilWords of the kit writes over the words of a row of the call's own, and nothing else.
-/
namespace Go.Proofs.Ytckhgdjcofpijab
open Go.RowKit
set_option maxRecDepth 10000

end Go.Proofs.Ytckhgdjcofpijab

/-
  apart of the laws of layer 2 answers true of instructions each of which lies in memory of its own, and are the wanted ones; what was there ahead of them stays.
-/
namespace Go.Proofs.Ytckhgdjcofpijab
open Go.RowKit

theorem Apart.info : (Try.prog.info? 22).map (fun i => (i.zero, i.size, i.bytes)) = some (some (.int .u32 0), 1, 4) := by kernel_rfl

/-- The instructions from the k-th on lie each in memory of its own, from block lo on; the row lies elsewhere. -/
def OwnR (w : World) (lo : Nat) (a : Option Addr) (k : Nat) (rs : List (Int × List Int)) : Prop :=
  ∀ j, k ≤ j → j < rs.length → ∃ b off aj cj nj, a = some ⟨b, off, none⟩ ∧ lo ≤ b ∧ b < w.heap.size ∧ w.cell? ⟨b, off + j * 2, none⟩ = some (.int .u16 (nthR rs j).1) ∧ w.cell? ⟨b, off + j * 2 + 1, none⟩ = some (.slice aj nj cj) ∧ (nthR rs j).2.length = nj ∧
    w.ownsRow lo 22 1 (.slice aj nj cj) nj ((nthR rs j).2.map (Value.int .u32)) ∧ Value.ownBlock (.slice aj nj cj) ≠ some b ∧
    ∀ i, k ≤ i → i < rs.length → i ≠ j → ∀ ai ci ni g, w.cell? ⟨b, off + i * 2 + 1, none⟩ = some (.slice ai ni ci) → Value.ownBlock (.slice ai ni ci) = some g → Value.ownBlock (.slice aj nj cj) ≠ some g

theorem own_grown {w w' : World} {B e size n : Nat} {v : Value} {xs : List Value} {ob : Option Nat} (h : w.ownsRow B e size v n xs) (hg : w.grownBy w' ob) (hne : ∀ g, ob = some g → v.ownBlock ≠ some g) : w'.ownsRow B e size v n xs := by
  refine ⟨h.1, ?_⟩
  rcases h.2 with hn | ⟨g, cap, cur, rfl, hb, hgg, rest⟩
  · exact .inl hn
  · exact .inr ⟨g, cap, cur, rfl, hb, by rw [hg.block g (Array.getElem?_eq_some_iff.1 hgg).1 (fun e => hne g e.symm rfl)]; exact hgg, rest⟩

/-- What is written in one instruction's words leaves the later ones. -/
theorem OwnR.next {w w' : World} {lo k b off : Nat} {a : Option Addr} {rs : List (Int × List Int)} {ak : Option Addr} {nk ck : Nat} (h : OwnR w lo a k rs) (ha : a = some ⟨b, off, none⟩) (hk : k < rs.length) (hc : w.cell? ⟨b, off + k * 2 + 1, none⟩ = some (.slice ak nk ck)) (hg : w.grownBy w' (Value.ownBlock (.slice ak nk ck))) : OwnR w' lo a (k + 1) rs := by
  obtain ⟨b0, off0, ak0, ck0, nk0, e0, _, _, _, hc0, _, _, hnb, _⟩ := h k (Nat.le_refl _) hk
  rw [ha] at e0
  simp at e0
  obtain ⟨rfl, rfl⟩ := e0
  rw [hc] at hc0
  simp at hc0
  obtain ⟨rfl, rfl, rfl⟩ := hc0
  have cell : ∀ o, w'.cell? ⟨b, o, none⟩ = w.cell? ⟨b, o, none⟩ := fun o => World.cell?_of_block (hg.block b (World.block_lt_of_cell? _ _ hc) (fun e => hnb e.symm))
  intro j hj hjl
  obtain ⟨b1, off1, aj, cj, nj, e1, hlo1, hb1, c1, c2, c3, c4, c5, c6⟩ := h j (by omega) hjl
  rw [ha] at e1
  simp at e1
  obtain ⟨rfl, rfl⟩ := e1
  refine ⟨b, off, aj, cj, nj, ha, hlo1, Nat.lt_of_lt_of_le hb1 hg.size, (cell _).trans c1, (cell _).trans c2, c3, own_grown c4 hg (fun g e => c6 k (Nat.le_refl _) hk (by omega) ak ck nk g hc e), c5, ?_⟩
  intro i hi hil hij ai ci ni g hci
  rw [cell] at hci
  exact c6 i (by omega) hil hij ai ci ni g hci

theorem grown_drew (w : World) (q : Nat) (ob : Option Nat) : w.grownBy (w.drewN q) ob := by
  have h := bel_drewN (Below.refl w.heap.size w) q
  exact ⟨h.os, h.tape, h.output, h.size, fun k hk _ => h.block k hk⟩

/-- An append and what is written in its row: nothing but the old row and new blocks. -/
theorem grown_new {w w1 w2 : World} {ob : Option Nat} {g H : Nat} (h1 : w.grownBy w1 ob) (hat : ob = some g ∨ g = H) (hH : w.heap.size = H) (h2 : w1.grownBy w2 (some g)) : w.grownBy w2 ob :=
  ⟨h2.os.trans h1.os, h2.tape.trans h1.tape, h2.output.trans h1.output, Nat.le_trans h1.size h2.size, fun k hk hne =>
    (h2.block k (Nat.lt_of_lt_of_le hk h1.size) (fun e => by
      cases e
      rcases hat with h | h
      · exact hne h.symm
      · omega)).trans (h1.block k hk hne)⟩

/-- What is written elsewhere leaves them all. -/
theorem OwnR.kept {w w' : World} {lo lo' k : Nat} {a : Option Addr} {rs : List (Int × List Int)} {ob : Option Nat} (h : OwnR w lo a k rs) (hg : w.grownBy w' ob) (hob : ∀ g, ob = some g → g < lo) (hlo : lo' ≤ lo) : OwnR w' lo' a k rs := by
  intro j hj hjl
  obtain ⟨b, off, aj, cj, nj, e1, hlo1, hb1, c1, c2, c3, c4, c5, c6⟩ := h j hj hjl
  have hne : some b ≠ ob := fun e => by have := hob b e.symm; omega
  have cell : ∀ o, w'.cell? ⟨b, o, none⟩ = w.cell? ⟨b, o, none⟩ := fun o => World.cell?_of_block (hg.block b hb1 hne)
  have c4' := own_grown c4 hg (fun g e e2 => by have := (c4.lt g e2).1; have := hob g e; omega)
  refine ⟨b, off, aj, cj, nj, e1, Nat.le_trans hlo hlo1, Nat.lt_of_lt_of_le hb1 hg.size, (cell _).trans c1, (cell _).trans c2, c3, ⟨c4'.1, ?_⟩, c5, fun i hi hil hij ai ci ni g hci => by rw [cell] at hci; exact c6 i hi hil hij ai ci ni g hci⟩
  rcases c4'.2 with h0 | ⟨g, cap, cur, e, hb, rest⟩
  · exact .inl h0
  · exact .inr ⟨g, cap, cur, e, Nat.le_trans hlo hb, rest⟩
theorem OwnR.below {w w' : World} {lo k : Nat} {a : Option Addr} {rs : List (Int × List Int)} (h : OwnR w lo a k rs) (hb : Below w.heap.size w w') : OwnR w' lo a k rs :=
  h.kept (ob := none) ⟨hb.os, hb.tape, hb.output, hb.size, fun k hk _ => hb.block k hk⟩ (fun g e => by cases e) (Nat.le_refl _)

theorem OwnR.view {w : World} {lo : Nat} {a : Option Addr} {rs : List (Int × List Int)} (h : OwnR w lo a 0 rs) : RawsV w a rs := by
  intro j hj
  obtain ⟨b, off, aj, cj, nj, e, _, hb, c1, c2, c3, c4, _⟩ := h j (Nat.zero_le _) hj
  refine ⟨b, off, aj, cj, nj, e, hb, c1, c2, c3, View.ofOwn c4 c3, ?_⟩
  rcases c4.2 with ⟨e1, e2⟩ | ⟨g, c', cur, e1, _, _, e4, _⟩
  · omega
  · cases e1; exact e4

end Go.Proofs.Ytckhgdjcofpijab
