/-
  Texts laid together in one: MathV, MathW, MathJ, SlicesCloneA.
-/
import Derived.Test.YtmobologlaeefacB01
import Derived.Test.YtmobologlaeefacB07
import Derived.WalkSpells
import Derived.WalkMore
import Derived.Test.YtmobologlaeefacProg
import Derived.Test.YtmobologlaeefacB10
/-
  Plain facts on instructions with other ids.
-/
namespace Go.Proofs.Ytmobologlaeefac
open Go.RowKit
set_option linter.unusedVariables false

/-- An argument, an instruction, instructions with f i for each id i. -/
def tA (f : Int → Int) (a : ArgT) : ArgT := if a.1 = 1 then (a.1, f a.2.1, a.2.2) else a
def tN (f : Int → Int) (i : Int) : Int := if i = 0 then 0 else f i
def turnX (f : Int → Int) (x : InstT) : InstT := (x.1, tN f x.2.1, tN f x.2.2.1, x.2.2.2.map (tA f))
def turnL (f : Int → Int) (l : List InstT) : List InstT := l.map (turnX f)
/-- Its arguments, when the first k have been turned. -/
def turnTo (f : Int → Int) (l : List ArgT) (k : Nat) : List ArgT := (l.take k).map (tA f) ++ l.drop k
theorem turnTo_zero (f : Int → Int) (l : List ArgT) : turnTo f l 0 = l := by simp [turnTo]
theorem turnTo_all (f : Int → Int) (l : List ArgT) : turnTo f l l.length = l.map (tA f) := by simp [turnTo]
theorem turnTo_len (f : Int → Int) (l : List ArgT) (k : Nat) : (turnTo f l k).length = l.length := by simp [turnTo]; omega
theorem turnTo_at (f : Int → Int) (l : List ArgT) (k : Nat) (hk : k < l.length) : nthA (turnTo f l k) k = nthA l k := by
  unfold nthA turnTo
  have hl : ((l.take k).map (tA f)).length = k := by simp; omega
  rw [List.getD_eq_getElem?_getD, List.getD_eq_getElem?_getD, List.getElem?_append_right (by omega), hl, Nat.sub_self, List.getElem?_drop, Nat.add_zero]
theorem turnTo_set (f : Int → Int) (l : List ArgT) (k : Nat) (hk : k < l.length) : (turnTo f l k).set k (tA f (nthA l k)) = turnTo f l (k + 1) := by
  unfold turnTo
  have hl : ((l.take k).map (tA f)).length = k := by simp; omega
  rw [List.set_append_right _ _ (by omega), hl, Nat.sub_self, List.drop_eq_getElem_cons hk, List.set_cons_zero, List.take_add_one, List.getElem?_eq_getElem hk]
  have : nthA l k = l[k] := by simp [nthA, List.getD, hk]
  rw [this, List.map_append, List.append_assoc]
  rfl
theorem turnTo_same (f : Int → Int) (l : List ArgT) (k : Nat) (hk : k < l.length) (h : (nthA l k).1 ≠ 1) : turnTo f l (k + 1) = turnTo f l k := by
  rw [← turnTo_set f l k hk]
  have e : tA f (nthA l k) = nthA (turnTo f l k) k := by rw [turnTo_at f l k hk]; simp [tA, h]
  rw [e]
  have hk' : k < (turnTo f l k).length := by rw [turnTo_len]; exact hk
  have e2 : nthA (turnTo f l k) k = (turnTo f l k)[k] := by simp [nthA, List.getD, hk']
  rw [e2, List.set_getElem_self]
theorem flat_argU : ∀ (l : List ArgT) (k j : Nat), k < l.length → j < 3 → (l.flatMap argC)[k * 3 + j]? = (argC (nthA l k))[j]?
  | [], k, j, h, _ => by simp at h
  | x :: l, 0, j, _, hj => by
    rw [List.flatMap_cons, List.getElem?_append_left (by simp [argC]; omega)]
    simp [nthA]
  | x :: l, k + 1, j, h, hj => by
    rw [List.flatMap_cons, List.getElem?_append_right (by simp [argC]; omega)]
    have e : (k + 1) * 3 + j - (argC x).length = k * 3 + j := by simp [argC]; omega
    rw [e, flat_argU l k j (by simpa using h) hj]
    simp [nthA]
theorem flat_lenU (l : List ArgT) : (l.flatMap argC).length = l.length * 3 := by
  induction l with
  | nil => rfl
  | cons x l ih => rw [List.flatMap_cons, List.length_append, ih]; simp [argC]; omega
theorem flat_setU : ∀ (l : List ArgT) (k : Nat) (v : Int), k < l.length → (l.flatMap argC).set (k * 3 + 1) (.int .u32 v) = (l.set k ((nthA l k).1, v, (nthA l k).2.2)).flatMap argC
  | [], k, v, h => by simp at h
  | x :: l, 0, v, _ => by simp [argC, nthA]
  | x :: l, k + 1, v, h => by
    have e : (k + 1) * 3 + 1 = (argC x).length + (k * 3 + 1) := by simp [argC]; omega
    rw [List.flatMap_cons, e, List.set_append_right _ _ (by omega), Nat.add_sub_cancel_left, flat_setU l k v (by simpa using h)]
    simp [nthA]
/-- A store of a turned id. -/
theorem turn_set (f : Int → Int) (l : List ArgT) (k : Nat) (hk : k < l.length) (h : (nthA l k).1 = 1) : ((turnTo f l k).flatMap argC).set (k * 3 + 1) (.int .u32 (f (nthA l k).2.1)) = (turnTo f l (k + 1)).flatMap argC := by
  rw [flat_setU _ _ _ (by rw [turnTo_len]; exact hk), turnTo_at f l k hk, ← turnTo_set f l k hk]
  congr 2
  simp [tA, h]
theorem turnL_len (f : Int → Int) (l : List InstT) : (turnL f l).length = l.length := by simp [turnL]
theorem turnL_at (f : Int → Int) (l : List InstT) (k : Nat) (hk : k < l.length) : nthI (turnL f l) k = turnX f (nthI l k) := by simp [nthI, turnL, List.getD, hk]
theorem tA_ok {f : Int → Int} (hf : ∀ i, 0 ≤ f i ∧ f i < 4294967296) {a : ArgT} (h : ArgOk a) : ArgOk (tA f a) := by
  unfold tA
  split
  · exact ⟨h.1, h.2.1, (hf _).1, (hf _).2, h.2.2.2.2⟩
  · exact h
theorem turnX_ok {f : Int → Int} (hf : ∀ i, 0 ≤ f i ∧ f i < 4294967296) {x : InstT} (h : InstOk x) : InstOk (turnX f x) := by
  obtain ⟨h1, h2, h3, h4, h5, h6, h7, h8⟩ := h
  have ht : ∀ i, 0 ≤ tN f i ∧ tN f i < 4294967296 := fun i => by unfold tN; split; exact ⟨by omega, by omega⟩; exact hf i
  refine ⟨h1, h2, (ht _).1, (ht _).2, (ht _).1, (ht _).2, fun j hj => ?_, by simpa [turnX] using h8⟩
  simp only [turnX, List.length_map] at hj
  have : nthA (turnX f x).2.2.2 j = tA f (nthA x.2.2.2 j) := by simp [turnX, nthA, List.getD, hj]
  rw [this]
  exact tA_ok hf (h7 j hj)
theorem turnL_ok {f : Int → Int} (hf : ∀ i, 0 ≤ f i ∧ f i < 4294967296) {l : List InstT} (h : InstsOk l) : InstsOk (turnL f l) := fun k hk => by
  rw [turnL_len] at hk
  rw [turnL_at f l k hk]
  exact turnX_ok hf (h k hk)
end Go.Proofs.Ytmobologlaeefac

/-
  Plain facts on numbers that are those below a bound, each once.
-/
namespace Go.Proofs.Ytmobologlaeefac
open Go.RowKit
set_option linter.unusedVariables false

theorem nodup_len : ∀ (l l' : List Int), l.Nodup → (∀ x ∈ l, x ∈ l') → l.length ≤ l'.length
  | [], _, _, _ => by simp
  | a :: t, l', hn, hs => by
    have ha := hs a (by simp)
    obtain ⟨hn1, hn2⟩ := List.nodup_cons.1 hn
    have := nodup_len t (l'.erase a) hn2 (fun x hx => (List.mem_erase_of_ne (fun e => hn1 (by rw [← e]; exact hx))).2 (hs x (by simp [hx])))
    rw [List.length_erase_of_mem ha] at this
    have hp := List.length_pos_of_mem ha
    simp only [List.length_cons]
    omega
/-- The numbers from 1 to m. -/
def upTo (m : Nat) : List Int := (List.range m).map fun (k : Nat) => (k : Int) + 1
theorem upTo_len (m : Nat) : (upTo m).length = m := by simp [upTo]
theorem upTo_mem (m : Nat) (i : Int) : i ∈ upTo m ↔ 1 ≤ i ∧ i ≤ m := by
  unfold upTo
  rw [List.mem_map]
  constructor
  · rintro ⟨k, hk, rfl⟩; rw [List.mem_range] at hk; omega
  · rintro ⟨h1, h2⟩; exact ⟨(i - 1).toNat, by rw [List.mem_range]; omega, by omega⟩
theorem upTo_nodup : ∀ m : Nat, (upTo m).Nodup
  | 0 => by simp [upTo]
  | m + 1 => by
    have e : upTo (m + 1) = upTo m ++ [(m : Int) + 1] := by simp [upTo, List.range_succ]
    rw [e, List.nodup_append]
    refine ⟨upTo_nodup m, by simp, fun a ha b hb => ?_⟩
    rw [List.mem_singleton] at hb
    have := (upTo_mem m a).1 ha
    omega
/-- Each of the numbers from 1 to m once, among m numbers: just if those are different numbers from 1 to m. -/
theorem once_iff (t : List Int) (m : Nat) (hl : t.length = m) : (∀ i : Int, 1 ≤ i → i ≤ m → t.count i = 1) ↔ t.Nodup ∧ ∀ z ∈ t, 1 ≤ z ∧ z ≤ m := by
  constructor
  · intro h
    have hsub : ∀ x ∈ upTo m, x ∈ t := fun x hx => by
      have := (upTo_mem m x).1 hx
      exact List.count_pos_iff.1 (by rw [h x this.1 this.2]; omega)
    have hin : ∀ z ∈ t, 1 ≤ z ∧ z ≤ m := fun z hz => by
      by_cases hm : z ∈ upTo m
      · exact (upTo_mem m z).1 hm
      · exfalso
        have := nodup_len (z :: upTo m) t (List.nodup_cons.2 ⟨hm, upTo_nodup m⟩) (fun x hx => by
          rcases List.mem_cons.1 hx with rfl | hx
          · exact hz
          · exact hsub x hx)
        rw [List.length_cons, upTo_len] at this
        omega
    refine ⟨List.nodup_iff_count.2 fun a => ?_, hin⟩
    by_cases ha : a ∈ t
    · have := hin a ha; rw [h a this.1 this.2]; omega
    · rw [List.count_eq_zero.2 ha]; omega
  · rintro ⟨hn, hin⟩ i h1 h2
    have hle := List.nodup_iff_count.1 hn i
    have hmem : i ∈ t := by
      by_cases hm : i ∈ t
      · exact hm
      · exfalso
        have := nodup_len (i :: t) (upTo m) (List.nodup_cons.2 ⟨hm, hn⟩) (fun x hx => by
          rcases List.mem_cons.1 hx with rfl | hx
          · exact (upTo_mem m x).2 ⟨h1, h2⟩
          · exact (upTo_mem m x).2 (hin x hx))
        rw [List.length_cons, upTo_len] at this
        omega
    have := List.count_pos_iff.2 hmem
    omega
/-- Numbers by which ids may be renamed. -/
def IsWay (zs : List Int) (b : Int) : Prop := (zs.length : Int) = b ∧ nth zs 0 = 0 ∧ (∀ z ∈ zs, z < b) ∧ zs.Nodup
theorem way_iff {zs : List Int} {b : Int} (hw : Within 4294967296 zs) (hl : (zs.length : Int) = b) (h0 : nth zs 0 = 0) (hb : 1 ≤ b) : IsWay zs b ↔ ∀ i : Int, 1 ≤ i → i < b → (zs.drop 1).count i = 1 := by
  cases zs with
  | nil => simp at hl; omega
  | cons x t =>
    simp only [nth, List.getD_cons_zero] at h0
    subst h0
    have hlt : (t.length : Int) + 1 = b := by simpa using hl
    rw [List.drop_one, List.tail_cons]
    have key := once_iff t t.length rfl
    constructor
    · rintro ⟨_, _, h3, h4⟩ i h1 h2
      obtain ⟨n1, n2⟩ := List.nodup_cons.1 h4
      refine key.2 ⟨n2, fun z hz => ?_⟩ i h1 (by omega)
      have := h3 z (by simp [hz])
      have := (hw z (by simp [hz])).1
      have : z ≠ 0 := fun e => n1 (by rw [← e]; exact hz)
      omega
    · intro h
      obtain ⟨k1, k2⟩ := key.1 fun i h1 h2 => h i h1 (by omega)
      refine ⟨hl, rfl, fun z hz => ?_, List.nodup_cons.2 ⟨fun h0 => ?_, k1⟩⟩
      · rcases List.mem_cons.1 hz with rfl | hz
        · omega
        · have := k2 z hz; omega
      · have := k2 0 h0; omega
end Go.Proofs.Ytmobologlaeefac

/-
  Plain facts on the ids of a module of good shape: each lies below the bound; other ids by a list.
-/
namespace Go.Proofs.Ytmobologlaeefac
open Go.RowKit
set_option linter.unusedVariables false

def InB (b i : Int) : Prop := 1 ≤ i ∧ i < b
theorem idE_in {must : Bool} {n b e : Int} (h0 : 0 ≤ n) (he : e ≠ 0) (h : idE must n b e = 0) (hn : n ≠ 0) : InB b n := by
  unfold idE at h
  split at h
  · exact absurd h he
  · rename_i h1
    simp [hn] at h1
    subst h1
    split at h
    · cases h
    · rename_i h2
      simp at h2
      exact ⟨by omega, by omega⟩
theorem wrongA_in {c : Int} {x : ArgT} {b : Int} (h0 : 0 ≤ x.2.1) (h : wrongA c x b = 0) (hk : x.1 = 1) : InB b x.2.1 := by
  unfold wrongA at h
  split at h
  · cases h
  · rename_i h1
    rw [if_neg (by omega)] at h
    have hm : mayStandB c x = true := by simpa using h1
    unfold mayStandB at hm
    simp only [Bool.and_eq_true, beq_iff_eq] at hm
    have hkc : kindI c = 1 := by rw [← hm.1.2]; exact hk
    unfold faultW at h
    rw [if_pos hkc] at h
    split at h
    · cases h
    · rename_i h2
      unfold noneB at h2
      simp at h2
      exact ⟨by omega, by omega⟩
theorem wrongL_in {f : Frm} {b : Int} : ∀ (l : List ArgT) (k : Nat), wrongL f b k l = 0 → ∀ j, j < l.length → wrongA (letterI f ((k + j : Nat) : Int)) (nthA l j) b = 0
  | [], _, _, j, hj => by simp at hj
  | x :: l, k, h, j, hj => by
    rw [wrongL] at h
    by_cases h1 : wrongA (letterI f k) x b = 0
    · rw [if_pos h1] at h
      cases j with
      | zero => simpa [nthA] using h1
      | succ j =>
        have := wrongL_in l (k + 1) h j (by simpa using hj)
        rw [show k + (j + 1) = k + 1 + j by omega]
        simpa [nthA] using this
    · rw [if_neg h1] at h; exact absurd h h1
/-- The ids of an instruction that can be written lie below the bound. -/
theorem ids_in {x : InstT} {b : Int} (hok : InstOk x) (h : rawE x b = 0) : (x.2.1 ≠ 0 → InB b x.2.1) ∧ (x.2.2.1 ≠ 0 → InB b x.2.2.1) ∧ ∀ j, j < x.2.2.2.length → (nthA x.2.2.2 j).1 = 1 → InB b (nthA x.2.2.2 j).2.1 := by
  obtain ⟨_, h2, _⟩ := rawWs_ok h
  obtain ⟨i1, i2, i3, _, _⟩ := faultI_zero h2
  obtain ⟨_, _, a3, _, a5, _, a7, _⟩ := hok
  refine ⟨fun hn => idE_in a3 (by decide) i1 hn, fun hn => idE_in a5 (by decide) i2 hn, fun j hj hk => ?_⟩
  exact wrongA_in (a7 j hj).2.2.1 (wrongL_in _ 0 i3 j hj) hk
/-- Other ids, by a list of numbers. -/
def fW (zs : List Int) (i : Int) : Int := nth zs i.toNat
theorem fW_nat (zs : List Int) (k : Nat) : fW zs (k : Int) = nth zs k := rfl
theorem fW_range {zs : List Int} (hw : Within 4294967296 zs) (i : Int) : 0 ≤ fW zs i ∧ fW zs i < 4294967296 := by
  unfold fW
  by_cases h : i.toNat < zs.length
  · exact hw.at h
  · have : nth zs i.toNat = 0 := by unfold nth; rw [List.getD_eq_getElem?_getD, List.getElem?_eq_none (by omega)]; rfl
    rw [this]; omega
end Go.Proofs.Ytmobologlaeefac

/-
  What slices.Clone of arguments returns: the arguments in new memory; nothing that was there has turned.
-/
namespace Go.Proofs.Ytmobologlaeefac
open Go.RowKit
set_option linter.unusedVariables false
set_option linter.unusedSimpArgs false
set_option maxRecDepth 10000

theorem CloneA.info : (Try.prog.info? 63).map (fun i => (i.zero, i.size, i.bytes)) = some (some (.agg #[.int .u8 0, .int .u32 0, .string ⟨#[]⟩]), 3, 24) := by kernel_rfl

set_option maxHeartbeats 1000000 in
theorem cloneA_any (a : Option Addr) (n cap : Nat) (l : List ArgT) (w : World) (hv : ArgsV w a l) (hl : l.length = n) (hn : 24 * n ≤ 140737488351232) :
    Calls Try.prog 69 #[.slice a n cap] w fun e w' => ∃ v, e = .returned v ∧ w'.ownsRow w.heap.size 63 3 v n (l.flatMap argC) ∧ Below w.heap.size w w' := by
  obtain ⟨i0, hi, hz0, hz1, hz2⟩ := info_parts CloneA.info
  have hnn := fun w => Lib.run_eql_slice_nil (P := Try.prog) w 49 63 a n cap 0 0 Try.underlying49
  cases a with
  | none =>
    simp only [Option.isNone_none] at hnn
    obtain rfl : l = [] := by
      cases l with
      | nil => rfl
      | cons x l => obtain ⟨_, _, e, _⟩ := hv 0 (by simp); cases e
    simp at hl
    subst hl
    clear hv
    go_enter Try.func69, Try.ntmps69
    go_wp2_with fail
    go_ret
    exact ⟨.slice none 0 0, rfl, World.ownsRow_nil _ _ _ _, Below.refl _ _⟩
  | some x =>
    simp only [Option.isNone_some] at hnn
    have hbs : ∀ w, (Instr.buildSlice 49 0 #[]).run Try.prog w = .ok (.slice (some ⟨w.heap.size, 0, none⟩) 0 0) (w.alloc (.cells #[] 63)) := fun w => by kernel_rfl
    have hown0 : (w.alloc (.cells #[] 63)).ownsRow w.heap.size 63 3 (.slice (some ⟨w.heap.size, 0, none⟩) 0 0) 0 [] := World.ownsRow_lit w #[] 0 (Nat.le_refl _) (by unfold maxLen; omega) rfl
    have hnews : ∀ j u, (l.flatMap argC)[j]? = some u → (w.alloc (.cells #[] 63)).cell? (x.add j) = some u := by
      intro j u hj
      have hjl : j < l.length * 3 := by
        rcases Nat.lt_or_ge j (l.length * 3) with h | h
        · exact h
        · rw [List.getElem?_eq_none (by rw [flat_lenU]; exact h)] at hj; cases hj
      have e1 : j = (j / 3) * 3 + j % 3 := by omega
      have hk : j / 3 < l.length := by omega
      obtain ⟨b, off, e, hb, c0, c1, c2⟩ := hv (j / 3) hk
      simp only [Option.some.injEq] at e
      subst e
      rw [e1, flat_argU l (j / 3) (j % 3) hk (Nat.mod_lt _ (by decide))] at hj
      rw [Addr.add_lit, World.cell?_alloc_past _ _ _ hb]
      have h3 : j % 3 = 0 ∨ j % 3 = 1 ∨ j % 3 = 2 := by omega
      rcases h3 with h3 | h3 | h3
      · rw [h3] at hj e1; rw [show off + j = off + j / 3 * 3 by omega, c0, ← hj]; rfl
      · rw [h3] at hj e1; rw [show off + j = off + j / 3 * 3 + 1 by omega, c1, ← hj]; rfl
      · rw [h3] at hj e1; rw [show off + j = off + j / 3 * 3 + 2 by omega, c2, ← hj]; rfl
    have HL : Hid (l.length = n) := hl
    have H1 : Hid (∀ u ∈ l.flatMap argC, u.oneCell' = true) := by
      intro u hu
      obtain ⟨y, _, hy⟩ := List.mem_flatMap.1 hu
      simp [argC] at hy
      rcases hy with rfl | rfl | rfl <;> rfl
    clear hl hv
    go_enter Try.func69, Try.ntmps69
    go_wp2_with (at_builtin; refine wpList_append_own _ rfl (.tmp 5) (.tmp 6) 49 rfl w.heap.size 63 i0 (.agg #[.int .u8 0, .int .u32 0, .string ⟨#[]⟩]) 3 24 Try.underlying49 hi hz0 hz1 hz2 rfl (by decide) _ _ _ rfl hown0 x n cap (l.flatMap argC) rfl (by rw [flat_lenU, HL.out]) hnews H1.out (by unfold maxLen; omega) (by omega) (by simp) ?_)
    intro v' w1 hown1 hgrow1 hnil1
    have hb1 : Below w.heap.size w w1 := ((Below.refl _ w).alloc (Nat.le_refl _) _).grown hgrow1 (by simp) (fun k hk => by simp [Value.ownBlock] at hk; omega)
    have HO := hide hown1
    have HB := hide hb1
    clear hnil1 hgrow1 hnews hown0 hown1 hb1
    go_wp2_with fail
    go_ret
    exact ⟨v', rfl, HO.out, HB.out⟩

end Go.Proofs.Ytmobologlaeefac
