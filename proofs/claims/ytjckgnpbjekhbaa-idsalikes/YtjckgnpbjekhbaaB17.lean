/-
  Texts laid together in one: Ref09Alike.
-/
import Derived.WalkSpells
import Derived.WalkMore
import Derived.BigRegion
import Derived.Maps.OwnSet
import Derived.Deep.RegionWith
import Derived.Test.YtjckgnpbjekhbaaProg
import Derived.Test.YtjckgnpbjekhbaaB16
import Derived.Test.YtjckgnpbjekhbaaB12
import Derived.Test.YtjckgnpbjekhbaaB02
/-
  The document's Alike.
-/
namespace Go.Proofs.Ytjckgnpbjekhbaa
open Go.RowKit Go.Maps
set_option linter.unusedVariables false
set_option linter.unusedSimpArgs false
set_option maxRecDepth 10000

/-- The same but for ids: arguments, instructions, the first k of them. -/
def SkA (x y : ArgT) : Prop := x.1 = y.1 ∧ x.2.2 = y.2.2 ∧ (x.1 ≠ 1 → x.2.1 = y.2.1)
def SkI (x y : InstT) : Prop := x.1 = y.1 ∧ x.2.2.2.length = y.2.2.2.length ∧ ∀ j, j < x.2.2.2.length → SkA (nthA x.2.2.2 j) (nthA y.2.2.2 j)
def SkL (l m : List InstT) (k : Nat) : Prop := ∀ i, i < k → SkI (nthI l i) (nthI m i)
/-- The pairs that are no zeros. -/
def nzTo (p q : List Int) : Nat → List (Int × Int)
  | 0 => []
  | k + 1 => if nth p k = 0 then nzTo p q k else nzTo p q k ++ [(nth p k, nth q k)]
def ZeroP (p q : List Int) (k : Nat) : Prop := ∀ i, i < k → (nth p i = 0 ↔ nth q i = 0)
/-- What the document's Alike tells. -/
def RefC (ga ba gb bb : Int) (l m : List InstT) : Prop :=
  (shapeE ba l).1 = 0 ∧ (shapeE bb m).1 = 0 ∧ ga = gb ∧ l.length = m.length ∧ SkL l m l.length ∧ (allTo l l.length).length = (allTo m m.length).length ∧ ZeroP (allTo l l.length) (allTo m m.length) (allTo l l.length).length ∧ Bij (nzTo (allTo l l.length) (allTo m m.length) (allTo l l.length).length)

theorem allTo_few {b : Int} {l : List InstT} (h : (shapeE b l).1 = 0) : ∀ k, k ≤ l.length → (allTo l k).length ≤ 2097152 := by
  have hs := (shape_few h).2
  have key : ∀ k, k ≤ l.length → (allTo l k).length ≤ 2 * sizeTo (rawsL b l) k := by
    intro k
    induction k with
    | zero => intro _; simp [allTo]
    | succ k ih =>
      intro hk
      have h1 := ih (by omega)
      have hr := shape_each h k (by omega)
      rw [allTo_succ l k (by omega), List.length_append, sizeTo_succ _ k (by rw [rawsL_len]; omega)]
      have e : (nthR (rawsL b l) k).2 = rawWs (nthI l k) b := by
        unfold nthR rawsL
        rw [List.getD_eq_getElem?_getD, List.getElem?_map, List.getElem?_eq_getElem (by omega), nthI_lt _ _ (by omega)]
        rfl
      rw [e, (rawWs_ok hr).2.2]
      have h2 : (allD (nthI l k)).length ≤ 2 + (nthI l k).2.2.2.length := by
        unfold allD allK
        rw [List.take_length, List.length_append]
        have : ∀ xs : List ArgT, (xs.flatMap idsA).length ≤ xs.length := by
          intro xs
          induction xs with
          | nil => simp
          | cons x xs ih => rw [List.flatMap_cons, List.length_append, List.length_cons]; have : (idsA x).length ≤ 1 := by { unfold idsA; split <;> simp }; omega
        have := this (nthI l k).2.2.2
        simp only [List.length_cons, List.length_nil]
        omega
      have h3 : (nthI l k).2.2.2.length ≤ (rawL (lookF refT (nthI l k).1).1 (nthI l k)).length := by
        unfold rawL wordsL
        rw [List.length_append]
        have : ∀ xs : List ArgT, xs.length ≤ (xs.flatMap wordsA).length := by
          intro xs
          induction xs with
          | nil => simp
          | cons x xs ih => rw [List.flatMap_cons, List.length_append, List.length_cons, wordsA_len]; split <;> omega
        have := this (nthI l k).2.2.2
        omega
      omega
  have hmono : ∀ k j, k ≤ j → j ≤ l.length → sizeTo (rawsL b l) k ≤ sizeTo (rawsL b l) j := by
    intro k j hkj
    induction j with
    | zero => intro _; rw [show k = 0 by omega]; exact Nat.le_refl _
    | succ j ih =>
      intro hj
      by_cases e : k = j + 1
      · rw [e]; exact Nat.le_refl _
      · have := ih (by omega) (by omega)
        rw [sizeTo_succ _ j (by rw [rawsL_len]; omega)]
        omega
  intro k hk
  have h1 := key k hk
  have h2 := hmono k l.length hk (Nat.le_refl _)
  omega
theorem mem_allD {x : InstT} {z : Int} (h : z ∈ allD x) : z = x.2.1 ∨ z = x.2.2.1 ∨ ∃ j, j < x.2.2.2.length ∧ (nthA x.2.2.2 j).1 = 1 ∧ z = (nthA x.2.2.2 j).2.1 := by
  unfold allD allK at h
  rw [List.take_length] at h
  rcases List.mem_append.1 h with h | h
  · simp at h
    rcases h with h | h
    · exact .inl h
    · exact .inr (.inl h)
  · obtain ⟨y, hy, hi⟩ := List.mem_flatMap.1 h
    obtain ⟨j, hj, rfl⟩ := List.mem_iff_getElem.1 hy
    refine .inr (.inr ⟨j, hj, ?_⟩)
    rw [nthA_lt _ _ hj]
    unfold idsA at hi
    split at hi
    · rename_i h1; simp at hi; exact ⟨h1, hi⟩
    · simp at hi
theorem allTo_in {b : Int} {l : List InstT} (hok : InstsOk l) (h : (shapeE b l).1 = 0) : ∀ z ∈ allTo l l.length, 0 ≤ z ∧ z < 65536 := by
  have hb := shape_bound h
  intro z hz
  unfold allTo at hz
  rw [List.take_length] at hz
  obtain ⟨x, hx, hzx⟩ := List.mem_flatMap.1 hz
  obtain ⟨k, hk, rfl⟩ := List.mem_iff_getElem.1 hx
  have hr := shape_each h k hk
  have ho := hok k hk
  rw [nthI_lt _ _ hk] at hr ho
  obtain ⟨i1, i2, i3⟩ := ids_in ho hr
  have inb : ∀ y : Int, InB b y → 0 ≤ y ∧ y < 65536 := fun y hy => by have h1 := hy.1; have h2 := hy.2; omega
  rcases mem_allD hzx with rfl | rfl | ⟨j, hj, h1, rfl⟩
  · by_cases e : l[k].2.1 = 0
    · rw [e]; omega
    · exact inb _ (i1 e)
  · by_cases e : l[k].2.2.1 = 0
    · rw [e]; omega
    · exact inb _ (i2 e)
  · exact inb _ (i3 j hj h1)

theorem toListA_ne {s t : ByteArray} (h : s ≠ t) : (s.toList == t.toList) = false := by
  rw [ByteArray.toList_eq, ByteArray.toList_eq, beq_eq_false_iff_ne]
  intro e
  apply h
  cases s; cases t
  simp only [Array.toList_inj] at e
  rw [e]

/-- The two tables of the document's Alike. -/
structure TbB (w wr : World) (T K : Nat) (zt zk : List Int) (L : List (Int × Int)) : Prop where
  to : wr.ownsRow T 22 1 (.slice (some ⟨T, 0, none⟩) 65536 65536) 65536 (zt.map (Value.int .u32))
  back : wr.ownsRow K 22 1 (.slice (some ⟨K, 0, none⟩) 65536 65536) 65536 (zk.map (Value.int .u32))
  lt : zt.length = 65536
  lk : zk.length = 65536
  vt : ∀ x : Nat, x < 65536 → nth zt x = (thF L (x : Int)).getD 0
  vk : ∀ x : Nat, x < 65536 → nth zk x = (bkF L (x : Int)).getD 0
  bel : Below w.heap.size w wr
theorem tab_cell {wr : World} {T : Nat} {zt : List Int} (h : wr.ownsRow T 22 1 (.slice (some ⟨T, 0, none⟩) 65536 65536) 65536 (zt.map (Value.int .u32))) (hl : zt.length = 65536) {p : Nat} (hp : p < 65536) : wr.cell? ⟨T, p, none⟩ = some (.int .u32 (nth zt p)) := by
  obtain ⟨b, off, e1, _, hc⟩ := View.ofRow h hl p (by omega)
  simp at e1
  obtain ⟨rfl, rfl⟩ := e1
  rw [Nat.zero_add] at hc
  exact hc
theorem nth_setA {zt : List Int} {p x : Nat} {v : Int} (h : p < zt.length) : nth (zt.set p v) x = if x = p then v else nth zt x := by
  unfold nth
  rw [List.getD_eq_getElem?_getD, List.getD_eq_getElem?_getD, List.getElem?_set]
  by_cases e : x = p
  · subst e; simp [h]
  · rw [if_neg (fun h2 => e h2.symm), if_neg e]
/-- A pair may come just if neither is beside another one. -/
theorem bij_may {L : List (Int × Int)} {p q : Int} (hB : Bij L) (hp : p ≠ 0) (hq : q ≠ 0) (hL : ∀ x ∈ L, x.1 ≠ 0 ∧ x.2 ≠ 0) : Bij (L ++ [(p, q)]) ↔ ((thF L p).getD 0 = 0 ∨ (thF L p).getD 0 = q) ∧ ((bkF L q).getD 0 = 0 ∨ (bkF L q).getD 0 = p) := by
  by_cases hn : thF L p = none ∧ bkF L q = none
  · rw [hn.1, hn.2]
    exact ⟨fun _ => ⟨.inl rfl, .inl rfl⟩, fun _ => (join_new hB hn.1 hn.2).1⟩
  · rw [join_old hB hn]
    constructor
    · rintro ⟨h1, h2⟩
      rw [h1, h2]
      exact ⟨.inr rfl, .inr rfl⟩
    · rintro ⟨h1, h2⟩
      cases hx : thF L p with
      | none =>
        rw [hx] at hn
        cases hy : bkF L q with
        | none => exact absurd ⟨rfl, hy⟩ hn
        | some z =>
          rw [hy] at h2
          have hm := bkF_some hy
          have hz := (hL _ hm).1
          simp only [Option.getD_some] at h2
          rcases h2 with h2 | h2
          · exact absurd h2 hz
          · rw [h2] at hm; exact absurd rfl (thF_none hx _ hm)
      | some z =>
        rw [hx] at h1
        have hm := thF_some hx
        have hz := (hL _ hm).2
        simp only [Option.getD_some] at h1
        rcases h1 with h1 | h1
        · exact absurd h1 hz
        · rw [h1] at hm ⊢; exact ⟨bkF_mem hB hm, rfl⟩
theorem thF_join {L : List (Int × Int)} {p q : Int} (hB : Bij (L ++ [(p, q)])) (y : Int) : thF (L ++ [(p, q)]) y = if y = p then some q else thF L y := by
  by_cases e : y = p
  · rw [if_pos e, e]; exact thF_mem hB (by simp)
  · rw [if_neg e]
    unfold thF
    rw [List.find?_append]
    cases hf : L.find? (fun r => r.1 == y) with
    | none => simp; intro e2; exact absurd e2.symm e
    | some r => simp
theorem bkF_join {L : List (Int × Int)} {p q : Int} (hB : Bij (L ++ [(p, q)])) (y : Int) : bkF (L ++ [(p, q)]) y = if y = q then some p else bkF L y := by
  by_cases e : y = q
  · rw [if_pos e, e]; exact bkF_mem hB (by simp)
  · rw [if_neg e]
    unfold bkF
    rw [List.find?_append]
    cases hf : L.find? (fun r => r.2 == y) with
    | none => simp; intro e2; exact absurd e2.symm e
    | some r => simp
theorem nzTo_front {p q : List Int} {k n : Nat} (h : k ≤ n) : ∃ r, nzTo p q n = nzTo p q k ++ r := by
  induction n with
  | zero => exact ⟨[], by rw [show k = 0 by omega]; simp⟩
  | succ n ih =>
    by_cases e : k = n + 1
    · exact ⟨[], by subst e; simp⟩
    · obtain ⟨r, hr⟩ := ih (by omega)
      rw [nzTo]
      split
      · exact ⟨r, hr⟩
      · exact ⟨r ++ [(nth p n, nth q n)], by rw [hr, List.append_assoc]⟩
theorem nzTo_no {p q : List Int} {k : Nat} (h : ZeroP p q k) : ∀ x ∈ nzTo p q k, x.1 ≠ 0 ∧ x.2 ≠ 0 := by
  induction k with
  | zero => intro x hx; simp [nzTo] at hx
  | succ k ih =>
    intro x hx
    rw [nzTo] at hx
    have ih := ih (fun i hi => h i (by omega))
    split at hx
    · exact ih x hx
    · rename_i hne
      rcases List.mem_append.1 hx with hx | hx
      · exact ih x hx
      · rw [List.mem_singleton] at hx; subst hx; exact ⟨hne, fun e => hne ((h k (by omega)).2 e)⟩
theorem U32R.info : (Try.prog.info? 22).map (fun i => (i.zero, i.size, i.bytes)) = some (some (.int .u32 0), 1, 4) := by kernel_rfl

theorem zeros_made (n : Nat) : ∃ Z : List Int, (madeCells #[Value.int .u32 0] n).toList = Z.map (Value.int .u32) ∧ Z.length = n ∧ ∀ x : Nat, x < n → nth Z x = 0 :=
  ⟨List.replicate n 0, by rw [List.map_replicate]; exact toList_madeCells_one (.int .u32 0) n, List.length_replicate, fun x hx => by simp [nth, List.getD_eq_getElem?_getD, List.getElem?_replicate, hx]⟩

set_option maxHeartbeats 16000000 in
theorem refAlike9_any (ga ba gb bb : Int) (l m : List InstT) (aa ab : Option Addr) (na nb ca cb : Nat) (w : World) (hva : InstsV w aa l) (hvb : InstsV w ab m) (hoa : InstsOk l) (hob : InstsOk m) (hla : l.length = na) (hlb : m.length = nb) (hna : 40 * na ≤ 140737488351232) (hnb : 40 * nb ≤ 140737488351232)
    (ba0 : 0 ≤ ba) (ba1 : ba < 4294967296) (bb0 : 0 ≤ bb) (bb1 : bb < 4294967296) (r : Bool) (hr : r = true ↔ RefC ga ba gb bb l m) :
    Calls Try.prog 8 #[modV ga ba aa na ca, modV gb bb ab nb cb] w fun e w' => e = .returned (.bool r) ∧ Below w.heap.size w w' := by
  have HSA := hide fun wx (hb : Below w.heap.size w wx) => refShape4_any ga ba aa na ca l wx (hva.below hb) hoa hla hna ba0 ba1
  have HSB := hide fun wx (hb : Below w.heap.size w wx) => refShape4_any gb bb ab nb cb m wx (hvb.below hb) hob hlb hnb bb0 bb1
  have HVA := hide hva
  have HVB := hide hvb
  have HOA := hide hoa
  have HOB := hide hob
  have HLA := hide hla
  have HLB := hide hlb
  have HR0 : Hid (r = true ↔ ((shapeE ba l).1 = 0 ∧ (shapeE bb m).1 = 0 ∧ ga = gb ∧ na = nb ∧ SkL l m na ∧ (allTo l na).length = (allTo m nb).length ∧ ZeroP (allTo l na) (allTo m nb) (allTo l na).length ∧ Bij (nzTo (allTo l na) (allTo m nb) (allTo l na).length))) := by
    show _ ↔ _
    rw [hr]; unfold RefC; rw [hla, hlb]
  have HA0 : Hid (AlB w ((w.alloc (.cells #[.int .u32 ga, .int .u32 ba, .slice aa na ca] 25)).alloc (.cells #[.int .u32 gb, .int .u32 bb, .slice ab nb cb] 25)) ga ba gb bb aa ab na nb ca cb) := by
    refine ⟨?_, ?_, ((Below.refl _ w).alloc (Nat.le_refl _) _).alloc (by simp) _⟩
    · rw [Below.heap_alloc _ _ _ (by simp)]; exact heap_alloc_new _ _
    · have := heap_alloc_new (w.alloc (.cells #[.int .u32 ga, .int .u32 ba, .slice aa na ca] 25)) (.cells #[.int .u32 gb, .int .u32 bb, .slice ab nb cb] 25); simpa using this
  have HSE1 : Hid ((shapeE ba l).1 = 0 → (∀ k, k ≤ na → (allTo l k).length ≤ 2097152) ∧ ∀ z ∈ allTo l na, 0 ≤ z ∧ z < 65536) := fun h => by rw [← hla]; exact ⟨allTo_few h, allTo_in hoa h⟩
  have HSE2 : Hid ((shapeE bb m).1 = 0 → (∀ k, k ≤ nb → (allTo m k).length ≤ 2097152) ∧ ∀ z ∈ allTo m nb, 0 ≤ z ∧ z < 65536) := fun h => by rw [← hlb]; exact ⟨allTo_few h, allTo_in hob h⟩
  clear hr hva hvb hoa hob hla hlb
  generalize (shapeE ba l).1 = E1 at *
  generalize (shapeE ba l).2 = F1 at *
  generalize (shapeE bb m).1 = E2 at *
  generalize (shapeE bb m).2 = F2 at *
  have h1 := HSA.out _ HA0.out.bel
  unfold modV at *
  have HNI : Hid ((na : Int) < 140737488351232 ∧ (nb : Int) < 140737488351232) := ⟨by omega, by omega⟩
  go_enter Try.func8, Try.ntmps8
  go_wp2_with fail
  generalize (w.alloc (.cells #[.int .u32 ga, .int .u32 ba, .slice aa na ca] 25)).alloc (.cells #[.int .u32 gb, .int .u32 bb, .slice ab nb cb] 25) = W0 at *
  refine h1.mono ?_
  rintro e w1 ⟨rfl, hb1⟩
  have hba : Below w1.heap.size w1 (w1.alloc (.cells #[.int .i64 E1, .int .i64 (F1 : Int)] 31)) := (Below.refl _ w1).alloc (Nat.le_refl _) _
  have HA1 := hide ((HA0.out.below hb1).below hba)
  have HS1 := hide (heap_alloc_new w1 (.cells #[.int .i64 E1, .int .i64 (F1 : Int)] 31))
  have h2 := HSB.out _ HA1.out.bel
  obtain ⟨bq, _⟩ := one_block HA1.out.bbox
  have b0 := bq 0
  have b1 := bq 1
  have b2 := bq 2
  clear h1 hb1 HA0 hba bq
  go_wp2_with fail
  have HL1 : Hid (w1.heap.size < (w1.alloc (.cells #[.int .i64 E1, .int .i64 (F1 : Int)] 31)).heap.size) := by show _ < _; simp
  generalize w1.alloc (.cells #[.int .i64 E1, .int .i64 (F1 : Int)] 31) = W1 at *
  refine h2.mono ?_
  rintro e w2 ⟨rfl, hb2⟩
  have hbb : Below w2.heap.size w2 (w2.alloc (.cells #[.int .i64 E2, .int .i64 (F2 : Int)] 31)) := (Below.refl _ w2).alloc (Nat.le_refl _) _
  have HA2 := hide ((HA1.out.below hb2).below hbb)
  have HS2 := hide (heap_alloc_new w2 (.cells #[.int .i64 E2, .int .i64 (F2 : Int)] 31))
  have HS3 := hide ((hbb.block w1.heap.size (Nat.lt_of_lt_of_le HL1.out hb2.size)).trans ((hb2.block _ HL1.out).trans HS1.out))
  have s0 := (one_block HS3.out).1 0
  have t0 := (one_block HS2.out).1 0
  obtain ⟨aq, _⟩ := one_block HA2.out.abox
  obtain ⟨bq, _⟩ := one_block HA2.out.bbox
  have c0 := aq 0
  have c1 := aq 1
  have c2 := aq 2
  have d0 := bq 0
  have d1 := bq 1
  have d2 := bq 2
  obtain ⟨hn1, hn2⟩ := HNI.out
  have HBE := hide HA2.out.bel
  clear h2 hb2 HA1 hbb HS1 HL1 b0 b1 b2 aq bq
  by_cases hE1 : E1 = 0
  · subst hE1
    by_cases hE2 : E2 = 0
    · subst hE2
      by_cases hG : ga = gb
      · subst hG
        have hgg : (ga != ga) = false := by simp
        by_cases hN : na = nb
        · have HNE := hide hN
          have hnn : ((na : Int) != (nb : Int)) = false := by rw [hN]; simp
          clear hN
          go_wp2_with fail
          generalize w2.alloc (.cells #[.int .i64 0, .int .i64 (F2 : Int)] 31) = W2 at *
          clear s0 t0 c0 c1 c2 d0 d1 d2 HS2 HS3 hgg hnn HSA HSB
          go_loopw [7] (fun i wr => ∃ k : Nat, k ≤ na ∧ i = .int .i64 k ∧ AlB w wr ga ba ga bb aa ab na nb ca cb ∧ SkL l m k) (fun i _ => na - (intOf i).toNat)
          case atStart => exact ⟨0, Nat.zero_le _, rfl, HA2.out, fun i hi => by omega⟩
          case round =>
            obtain ⟨k, hk, rfl, hA, hSk⟩ := hrel
            clear HA2 HBE
            have HA := hide hA
            have HSK := hide hSk
            have HBE := hide hA.bel
            obtain ⟨aq, _⟩ := one_block hA.abox
            obtain ⟨bq, _⟩ := one_block hA.bbox
            have c2 := aq 2
            have d2 := bq 2
            have hk0 : (0 : Int) ≤ (k : Int) := by omega
            clear hSk
            by_cases hlt : k < na
            · have hki : (k : Int) < (na : Int) := by omega
              have hkj : (k : Int) < (nb : Int) := by have := HNE.out; omega
              obtain ⟨g1, o1, aj, cj, nj, rfl, hg1, p1, p2, p3, p4, p5, p6, p7⟩ := HVA.out k (by rw [HLA.out]; exact hlt)
              obtain ⟨g2, o2, ak, ck, nk, rfl, hg2, q1, q2, q3, q4, q5, q6, q7⟩ := HVB.out k (by rw [HLB.out, ← HNE.out]; exact hlt)
              have hcl := fun i => hA.bel.cell (p := ⟨g1, i, none⟩) hg1
              have hcm := fun i => hA.bel.cell (p := ⟨g2, i, none⟩) hg2
              have hs := hA.size
              have hg1' : g1 < wr.heap.size := by omega
              have hg2' : g2 < wr.heap.size := by omega
              have p1 := (hcl _).trans p1
              have p2 := (hcl _).trans p2
              have p3 := (hcl _).trans p3
              have p4 := (hcl _).trans p4
              have q1 := (hcm _).trans q1
              have q2 := (hcm _).trans q2
              have q3 := (hcm _).trans q3
              have q4 := (hcm _).trans q4
              have hza := HOA.out k (by rw [HLA.out]; exact hlt)
              have hzb := HOB.out k (by rw [HLB.out, ← HNE.out]; exact hlt)
              have HNJ : Hid (24 * nj ≤ 140737488351232 ∧ 24 * nk ≤ 140737488351232) := by have h1 := hza.2.2.2.2.2.2.2; have h2 := hzb.2.2.2.2.2.2.2; rw [p5] at h1; rw [q5] at h2; exact ⟨h1, h2⟩
              have HP5 := hide p5
              have HQ5 := hide q5
              have HP6 := hide p6
              have HQ6 := hide q6
              have HKS : Hid (SkI (nthI l k) (nthI m k) → SkL l m (k + 1)) := fun h i hi => by
                by_cases hik : i < k
                · exact HSK.out i hik
                · obtain rfl : i = k := by omega
                  exact h
              have HKN : Hid (r = true → SkI (nthI l k) (nthI m k)) := fun h => (HR0.out.1 h).2.2.2.2.1 k hlt
              have HSI : Hid (SkI (nthI l k) (nthI m k) ↔ (nthI l k).1 = (nthI m k).1 ∧ nj = nk ∧ ∀ j, j < nj → SkA (nthA (nthI l k).2.2.2 j) (nthA (nthI m k).2.2.2 j)) := by
                show _ ↔ _
                unfold SkI; rw [p5, q5]
              generalize nthI l k = x at *
              generalize nthI m k = y at *
              obtain ⟨xo, xt, xr, xl⟩ := x
              obtain ⟨yo, yt, yr, yl⟩ := y
              simp only at p1 p2 p3 p4 q1 q2 q3 q4 HP5 HQ5 HP6 HQ6 HSI
              have hb1 : Below wr.heap.size wr (wr.alloc (.cells #[.int .u16 xo, .int .u32 xt, .int .u32 xr, .slice aj nj cj] 38)) := (Below.refl _ wr).alloc (Nat.le_refl _) _
              have hb2 : Below (wr.alloc (.cells #[.int .u16 xo, .int .u32 xt, .int .u32 xr, .slice aj nj cj] 38)).heap.size (wr.alloc (.cells #[.int .u16 xo, .int .u32 xt, .int .u32 xr, .slice aj nj cj] 38)) ((wr.alloc (.cells #[.int .u16 xo, .int .u32 xt, .int .u32 xr, .slice aj nj cj] 38)).alloc (.cells #[.int .u16 yo, .int .u32 yt, .int .u32 yr, .slice ak nk ck] 38)) := (Below.refl _ _).alloc (Nat.le_refl _) _
              have HA4 := hide ((hA.below hb1).below hb2)
              have HX4 := hide ((hb2.block wr.heap.size (by simp)).trans (heap_alloc_new wr (.cells #[.int .u16 xo, .int .u32 xt, .int .u32 xr, .slice aj nj cj] 38)))
              have HY4 : Hid (((wr.alloc (.cells #[.int .u16 xo, .int .u32 xt, .int .u32 xr, .slice aj nj cj] 38)).alloc (.cells #[.int .u16 yo, .int .u32 yt, .int .u32 yr, .slice ak nk ck] 38)).heap[wr.heap.size + 1]? = some (.cells #[.int .u16 yo, .int .u32 yt, .int .u32 yr, .slice ak nk ck] 38 (0, 0))) := by have := heap_alloc_new (wr.alloc (.cells #[.int .u16 xo, .int .u32 xt, .int .u32 xr, .slice aj nj cj] 38)) (.cells #[.int .u16 yo, .int .u32 yt, .int .u32 yr, .slice ak nk ck] 38); rw [World.size_alloc] at this; exact this
              have e2 : (wr.alloc (.cells #[.int .u16 xo, .int .u32 xt, .int .u32 xr, .slice aj nj cj] 38)).cell? ⟨w.heap.size + 1, 2, none⟩ = some (.slice (some ⟨g2, o2, none⟩) nb cb) := (hb1.cell (p := ⟨w.heap.size + 1, 2, none⟩) hs).trans d2
              have hcn := fun i => hb1.cell (p := ⟨g2, i, none⟩) hg2'
              have q1 := (hcn _).trans q1
              have q2 := (hcn _).trans q2
              have q3 := (hcn _).trans q3
              have q4 := (hcn _).trans q4
              obtain ⟨xq, _⟩ := one_block HX4.out
              obtain ⟨yq, _⟩ := one_block HY4.out
              have x0 := xq 0
              have x3 := xq 3
              have y0 := yq 0
              have y3 := yq 3
              have HBE4 := hide HA4.out.bel
              clear hb1 hb2 hcl hcm hcn aq bq xq yq hA hza hzb p5 p6 p7 q5 q6 q7
              by_cases hop : xo = yo
              · subst hop
                have hoo : (xo != xo) = false := by simp
                by_cases hjk : nj = nk
                · have HJK := hide hjk
                  have hjj : ((nj : Int) != (nk : Int)) = false := by rw [hjk]; simp
                  clear hjk
                  go_wp2_with fail
                  generalize (wr.alloc (.cells #[.int .u16 xo, .int .u32 xt, .int .u32 xr, .slice aj nj cj] 38)).alloc (.cells #[.int .u16 xo, .int .u32 yt, .int .u32 yr, .slice ak nk ck] 38) = W4 at *
                  clear p1 p2 p3 p4 q1 q2 q3 q4 x0 x3 y0 y3 e2 c2 d2 HBE hoo hjj hg1' hg2'
                  have HI1 : Hid (w.heap.size + 1 < wr.heap.size) := hs
                  clear hs
                  generalize wr.heap.size = I at *
                  have hnj := HNJ.out
                  have HA5 : Hid ((nj : Int) < 140737488351232) := by show _ < _; omega
                  have hnj0 := HA5.out
                  clear hnj
                  go_loopw [10] (fun i wz => ∃ j : Nat, j ≤ nj ∧ i = .int .i64 j ∧ Below W4.heap.size W4 wz ∧ (∀ t, t < j → SkA (nthA xl t) (nthA yl t))) (fun i _ => nj - (intOf i).toNat)
                  case atStart => exact ⟨0, Nat.zero_le _, rfl, Below.refl _ _, fun t ht => by omega⟩
                  case round =>
                    obtain ⟨j, hj, rfl, hW5, hS5⟩ := hrel
                    have HW5 := hide hW5
                    have HS5 := hide hS5
                    have hIl := (Array.getElem?_eq_some_iff.1 HY4.out).1
                    have hsz := hW5.size
                    have HX5 := hide ((hW5.block I (by omega)).trans HX4.out)
                    have HY5 := hide ((hW5.block (I + 1) hIl).trans HY4.out)
                    have x3 := (one_block HX5.out).1 3
                    have y3 := (one_block HY5.out).1 3
                    have hI1 : I < wr.heap.size := by omega
                    have hI2 : I + 1 < wr.heap.size := by omega
                    have hj0 : (0 : Int) ≤ (j : Int) := by omega
                    clear hW5 hS5
                    by_cases hjl : j < nj
                    · have hji : (j : Int) < (nj : Int) := by omega
                      have hjk : (j : Int) < (nk : Int) := by have := HJK.out; omega
                      have hbw := (HA4.out.below HW5.out).bel
                      obtain ⟨b1, z1, rfl, hb1, r1, r2, r3⟩ := (HP6.out.below hbw) j (by rw [HP5.out]; exact hjl)
                      obtain ⟨b2, z2, rfl, hb2, t1, t2, t3⟩ := (HQ6.out.below hbw) j (by rw [HQ5.out, ← HJK.out]; exact hjl)
                      obtain ⟨xk, xn, xs, hzx⟩ : ∃ xk xn xs, nthA xl j = (xk, xn, xs) := ⟨_, _, _, rfl⟩
                      obtain ⟨yk, yn, ys, hzy⟩ : ∃ yk yn ys, nthA yl j = (yk, yn, ys) := ⟨_, _, _, rfl⟩
                      rw [hzx] at r1 r2 r3
                      rw [hzy] at t1 t2 t3
                      have HZX := hide hzx
                      have HZY := hide hzy
                      have f3 := fun s : InC (Below wr.heap.size wr) => s.cell (p := ⟨I, 3, none⟩) hI1 x3
                      have g3 := fun s : InC (Below wr.heap.size wr) => s.cell (p := ⟨I + 1, 3, none⟩) hI2 y3
                      have k1 := fun s : InC (Below wr.heap.size wr) => s.cell (p := ⟨b1, z1 + j * 3, none⟩) hb1 r1
                      have k2 := fun s : InC (Below wr.heap.size wr) => s.cell (p := ⟨b1, z1 + j * 3 + 1, none⟩) hb1 r2
                      have k3 := fun s : InC (Below wr.heap.size wr) => s.cell (p := ⟨b1, z1 + j * 3 + 2, none⟩) hb1 r3
                      have l1 := fun s : InC (Below wr.heap.size wr) => s.cell (p := ⟨b2, z2 + j * 3, none⟩) hb2 t1
                      have l2 := fun s : InC (Below wr.heap.size wr) => s.cell (p := ⟨b2, z2 + j * 3 + 1, none⟩) hb2 t2
                      have l3 := fun s : InC (Below wr.heap.size wr) => s.cell (p := ⟨b2, z2 + j * 3 + 2, none⟩) hb2 t3
                      have hne : Nonempty (InC (Below wr.heap.size wr)) := ⟨⟨wr, Below.refl _ _⟩⟩
                      clear hzx hzy r1 r2 r3 t1 t2 t3 hbw
                      go_wp2_with fail
                      by_cases h1 : xk = yk
                      · subst h1
                        have h1' : (xk != xk) = false := by simp
                        by_cases h2 : xs = ys
                        · subst h2
                          have h2' : (xs.toList != xs.toList) = false := by simp
                          have h2'' : (xs.toList == xs.toList) = true := by simp
                          by_cases h3 : xk = 1
                          · subst h3
                            have HNX : Hid (∀ t, t < j + 1 → SkA (nthA xl t) (nthA yl t)) := fun t ht => by
                              by_cases htj : t < j
                              · exact HS5.out t htj
                              · obtain rfl : t = j := by omega
                                rw [HZX.out, HZY.out]; exact ⟨rfl, rfl, fun h => absurd rfl h⟩
                            refine wp_region_class (C := Below wr.heap.size wr) (by kernel_rfl) (by kernel_rfl) (below_drew wr) ?_
                            repeat (go_big_quiet_step (fail))
                            refine wpQuiet_nil ?_
                            rintro _ ⟨sv, rfl⟩
                            have HSV := hide (HW5.out.trans (sv.ok.mono HW5.out.size))
                            clear hne k1 k2 k3 l1 l2 l3 f3 g3
                            go_wp2_with fail
                            go_roundw
                            case rel => exact ⟨j + 1, by omega, by go_num, HSV.out, HNX.out⟩
                            case measure => simp [intOf]; omega
                          · have h3' : (xk != 1) = true := by simpa using h3
                            by_cases h4 : xn = yn
                            · subst h4
                              have h4' : (xn != xn) = false := by simp
                              have HNX : Hid (∀ t, t < j + 1 → SkA (nthA xl t) (nthA yl t)) := fun t ht => by
                                by_cases htj : t < j
                                · exact HS5.out t htj
                                · obtain rfl : t = j := by omega
                                  rw [HZX.out, HZY.out]; exact ⟨rfl, rfl, fun _ => rfl⟩
                              clear h3
                              refine wp_region_class (C := Below wr.heap.size wr) (by kernel_rfl) (by kernel_rfl) (below_drew wr) ?_
                              repeat (go_big_quiet_step (fail))
                              refine wpQuiet_nil ?_
                              rintro _ ⟨sv, rfl⟩
                              have HSV := hide (HW5.out.trans (sv.ok.mono HW5.out.size))
                              clear hne k1 k2 k3 l1 l2 l3 f3 g3
                              go_wp2_with fail
                              go_roundw
                              case rel => exact ⟨j + 1, by omega, by go_num, HSV.out, HNX.out⟩
                              case measure => simp [intOf]; omega
                            · have h4' : (xn != yn) = true := by simpa using h4
                              have HRF : Hid (r = false) := by
                                cases r with
                                | false => rfl
                                | true => have h := (HSI.out.1 (HKN.out rfl)).2.2 j hjl; rw [HZX.out, HZY.out] at h; exact absurd (h.2.2 h3) h4
                              clear h3 h4
                              refine wp_region_class (C := Below wr.heap.size wr) (by kernel_rfl) (by kernel_rfl) (below_drew wr) ?_
                              repeat (go_big_quiet_step (fail))
                              refine wpQuiet_nil ?_
                              rintro _ ⟨sv, rfl⟩
                              have HSV := hide (HW5.out.trans (sv.ok.mono HW5.out.size))
                              clear hne k1 k2 k3 l1 l2 l3 f3 g3
                              go_wp2_with fail
                              go_ret
                              exact ⟨by rw [HRF.out]; rfl, (HA4.out.below HSV.out).bel⟩
                        · have h2'' : (xs.toList == ys.toList) = false := toListA_ne h2
                          have h2' : (xs.toList != ys.toList) = true := by rw [bne, h2'']; rfl
                          have HRF : Hid (r = false) := by
                            cases r with
                            | false => rfl
                            | true => have h := (HSI.out.1 (HKN.out rfl)).2.2 j hjl; rw [HZX.out, HZY.out] at h; exact absurd h.2.1 h2
                          clear h2
                          refine wp_region_class (C := Below wr.heap.size wr) (by kernel_rfl) (by kernel_rfl) (below_drew wr) ?_
                          repeat (go_big_quiet_step (fail))
                          refine wpQuiet_nil ?_
                          rintro _ ⟨sv, rfl⟩
                          have HSV := hide (HW5.out.trans (sv.ok.mono HW5.out.size))
                          clear hne k1 k2 k3 l1 l2 l3 f3 g3
                          go_wp2_with fail
                          go_ret
                          exact ⟨by rw [HRF.out]; rfl, (HA4.out.below HSV.out).bel⟩
                      · have h1' : (xk != yk) = true := by simpa using h1
                        have HRF : Hid (r = false) := by
                          cases r with
                          | false => rfl
                          | true => have h := (HSI.out.1 (HKN.out rfl)).2.2 j hjl; rw [HZX.out, HZY.out] at h; exact absurd h.1 h1
                        clear h1
                        refine wp_region_class (C := Below wr.heap.size wr) (by kernel_rfl) (by kernel_rfl) (below_drew wr) ?_
                        repeat (go_big_quiet_step (fail))
                        refine wpQuiet_nil ?_
                        rintro _ ⟨sv, rfl⟩
                        have HSV := hide (HW5.out.trans (sv.ok.mono HW5.out.size))
                        clear hne k1 k2 k3 l1 l2 l3 f3 g3
                        go_wp2_with fail
                        go_ret
                        exact ⟨by rw [HRF.out]; rfl, (HA4.out.below HSV.out).bel⟩
                    · obtain rfl : j = nj := by omega
                      have HAF := hide (HA4.out.below HW5.out)
                      have HSF := hide (HKS.out (HSI.out.2 ⟨by first | rfl | trivial, HJK.out, HS5.out⟩))
                      go_wp2_with fail
                      go_roundw
                      case rel => exact ⟨k + 1, by omega, by go_num, HAF.out, HSF.out⟩
                      case measure => simp [intOf]; omega
                · have hjj : ((nj : Int) != (nk : Int)) = true := by simp; omega
                  have HRF : Hid (r = false) := by
                    cases r with
                    | false => rfl
                    | true => exact absurd (HSI.out.1 (HKN.out rfl)).2.1 hjk
                  clear hjk
                  go_wp2_with fail
                  go_ret
                  exact ⟨by rw [HRF.out]; rfl, HBE4.out⟩
              · have hoo : (xo != yo) = true := by simpa using hop
                have HRF : Hid (r = false) := by
                  cases r with
                  | false => rfl
                  | true => exact absurd (HSI.out.1 (HKN.out rfl)).1 hop
                clear hop
                go_wp2_with fail
                go_ret
                exact ⟨by rw [HRF.out]; rfl, HBE4.out⟩
            · obtain rfl : k = na := by omega
              have HPC := hide (HSE1.out (by first | rfl | trivial))
              have HQC := hide (HSE2.out (by first | rfl | trivial))
              have h6 := refAll9_any ga ba l aa k ca wr (HVA.out.below HA.out.bel) HOA.out HLA.out (by omega) HPC.out.1
              have h7 := fun wx (hb : Below w.heap.size w wx) => refAll9_any ga bb m ab nb cb wx (HVB.out.below hb) HOB.out HLB.out (by omega) HQC.out.1
              unfold modV at h6 h7
              have HA7 := hide h7
              have HPM : Hid (∀ z ∈ allTo l k, 0 ≤ z ∧ z < 65536) := HPC.out.2
              have HQM : Hid (∀ z ∈ allTo m nb, 0 ≤ z ∧ z < 65536) := HQC.out.2
              have HPL : Hid ((allTo l k).length ≤ 2097152) := HPC.out.1 k (Nat.le_refl _)
              have HR1 : Hid (r = true ↔ ((allTo l k).length = (allTo m nb).length ∧ ZeroP (allTo l k) (allTo m nb) (allTo l k).length ∧ Bij (nzTo (allTo l k) (allTo m nb) (allTo l k).length))) := by
                show _ ↔ _
                rw [HR0.out]
                exact ⟨fun h => h.2.2.2.2.2, fun h => ⟨by first | rfl | trivial, by first | rfl | trivial, by first | rfl | trivial, HNE.out, HSK.out, h⟩⟩
              have c0 := aq 0
              have c1 := aq 1
              clear HPC HQC HSE1 HSE2 h7 HR0 hA aq bq
              generalize allTo l k = P at *
              generalize allTo m nb = Q at *
              go_wp2_with fail
              refine h6.mono ?_
              rintro e w6 ⟨vp, rfl, hownp, hb6⟩
              obtain ⟨ap, cp, rfl⟩ := own_shapeU hownp
              have HA6 := hide (HA.out.below hb6)
              have HOP := hide hownp
              have h7 := HA7.out w6 HA6.out.bel
              obtain ⟨bq, _⟩ := one_block HA6.out.bbox
              have d0 := bq 0
              have d1 := bq 1
              have d2' := bq 2
              clear h6 hb6 hownp c0 c1 c2 d2 bq HA7
              go_wp2_with fail
              refine h7.mono ?_
              rintro e w7 ⟨vq, rfl, hownq, hb7⟩
              obtain ⟨aq, cq, rfl⟩ := own_shapeU hownq
              have HA8 := hide (HA6.out.below hb7)
              have HOP7 := hide (own_below HOP.out hb7)
              have HOQ7 := hide hownq
              have HS67 := hide hb7.size
              clear h7 hb7 hownq d0 d1 d2' HOP
              obtain ⟨i0, hi, hz0, hz1, hz2⟩ := info_parts U32R.info
              by_cases hPQ : P.length = Q.length
              · have HPQ := hide hPQ
                have hpq : ((P.length : Int) != (Q.length : Int)) = false := by rw [hPQ]; simp
                have hpl0 : (P.length : Int) < 140737488351232 := by have := HPL.out; omega
                have HW7 : Hid (w6.heap.size ≤ w7.heap.size ∧ w.heap.size + 1 < w6.heap.size) := ⟨HS67.out, HA6.out.size⟩
                clear hPQ HS67
                go_wp2_with (at_make; refine wpList_make_full _ rfl _ _ 28 rfl w7.heap.size 22 i0 (.int .u32 0) 1 Try.underlying28 hi hz0 hz1 _ _ _ _ 65536 rfl rfl (by omega) (by omega) (by rw [hz2]; omega) (by unfold maxLen; omega) (Nat.le_refl _) ?_)
                intro w8 hown8 hgrow8
                have hb8 : Below w7.heap.size w7 w8 := (Below.refl _ _).grown hgrow8 (Nat.le_refl _) (by simp)
                obtain ⟨Z0, e1, hZl, hZn⟩ := zeros_made 65536
                rw [e1] at hown8
                have HE1 := hide e1
                have HZL := hide hZl
                have HZN0 := hide hZn
                clear e1 hZl hZn
                have HO8 := hide hown8
                have HB8 := hide hb8
                have h78 : w7.heap.size < w8.heap.size := (hown8.lt w7.heap.size rfl).2
                clear hown8 hgrow8 hb8
                go_wp2_with (at_make; refine wpList_make_full _ rfl _ _ 28 rfl w8.heap.size 22 i0 (.int .u32 0) 1 Try.underlying28 hi hz0 hz1 _ _ _ _ 65536 rfl rfl (by omega) (by omega) (by rw [hz2]; omega) (by unfold maxLen; omega) (Nat.le_refl _) ?_)
                intro w9 hown9 hgrow9
                have hb9 : Below w8.heap.size w8 w9 := (Below.refl _ _).grown hgrow9 (Nat.le_refl _) (by simp)
                rw [HE1.out] at hown9
                have h79 : Below w7.heap.size w7 w9 := HB8.out.trans (hb9.mono HB8.out.size)
                have HT0 : Hid (TbB w w9 w7.heap.size w8.heap.size Z0 Z0 []) := ⟨own_below HO8.out hb9, hown9, HZL.out, HZL.out, fun x hx => HZN0.out x hx, fun x hx => HZN0.out x hx, HA8.out.bel.trans (h79.mono HA8.out.bel.size)⟩
                have HP9 := hide (own_below HOP7.out h79)
                have HQ9 := hide (own_below HOQ7.out h79)
                have HPB : Hid (∀ g, Value.ownBlock (.slice ap P.length cp) = some g → g < w7.heap.size) := fun g e => (HOP7.out.lt g e).2
                have HQB : Hid (∀ g, Value.ownBlock (.slice aq Q.length cq) = some g → g < w7.heap.size) := fun g e => (HOQ7.out.lt g e).2
                have h89 : w8.heap.size < w9.heap.size := (hown9.lt w8.heap.size rfl).2
                have HTK : Hid (w.heap.size + 1 < w7.heap.size ∧ w7.heap.size < w8.heap.size ∧ w8.heap.size < w9.heap.size) := ⟨by have := HW7.out; omega, h78, h89⟩
                clear hown9 hgrow9 hb9 h79 HE1 HZL HZN0 HO8 HB8 h78 h89 hi hz0 hz1 hz2 HA6 HOP7 HOQ7 HW7 HA8 HA HBE HSK HVA HVB HOA HOB HLA HLB
                go_wp2_with fail
                generalize w7.heap.size = T at *
                generalize w8.heap.size = K at *
                go_loopw [15] (fun i wr => ∃ (j : Nat) (zt zk : List Int), j ≤ P.length ∧ i = .int .i64 j ∧ TbB w wr T K zt zk (nzTo P Q j) ∧ Bij (nzTo P Q j) ∧ ZeroP P Q j ∧ KeepP T K w9 wr) (fun i _ => P.length - (intOf i).toNat)
                case atStart => exact ⟨0, _, _, Nat.zero_le _, rfl, HT0.out, bij_nil, fun i hi => by omega, keepP_below (Below.refl _ _)⟩
                case round =>
                  obtain ⟨j, zt, zk, hj, rfl, hT, hB, hZ, hKp⟩ := hrel
                  clear HT0
                  have HT := hide hT
                  have HBI := hide hB
                  have HZP := hide hZ
                  have HKP := hide hKp
                  have hj0 : (0 : Int) ≤ (j : Int) := by omega
                  have HSZ : Hid (T < wr.heap.size ∧ K < wr.heap.size ∧ w9.heap.size ≤ wr.heap.size ∧ T < K) := ⟨by have := HTK.out; have := hKp.size; omega, by have := HTK.out; have := hKp.size; omega, hKp.size, HTK.out.2.1⟩
                  clear hT hB hZ hKp
                  by_cases hjl : j < P.length
                  · have hji : (j : Int) < (P.length : Int) := by omega
                    have hjq : (j : Int) < (Q.length : Int) := by have := HPQ.out; omega
                    have hjl' : j < Q.length := by rw [← HPQ.out]; exact hjl
                    obtain ⟨b5, z5, rfl, s5, v5⟩ := View.ofOwn HP9.out rfl j hjl
                    obtain ⟨b6, z6, rfl, s6, v6⟩ := View.ofOwn HQ9.out rfl j hjl'
                    have l5 := HPB.out b5 rfl
                    have l6 := HQB.out b6 rfl
                    obtain ⟨hs1, hs2, hs3, hs4⟩ := HSZ.out
                    have tk := HTK.out
                    have hp5 : b5 < wr.heap.size := by omega
                    have hp6 : b6 < wr.heap.size := by omega
                    have v5 := (HKP.out.cell (p := ⟨b5, z5 + j, none⟩) (show b5 < _ by omega) (show b5 ≠ _ by omega) (show b5 ≠ _ by omega)).trans v5
                    have v6 := (HKP.out.cell (p := ⟨b6, z6 + j, none⟩) (show b6 < _ by omega) (show b6 ≠ _ by omega) (show b6 ≠ _ by omega)).trans v6
                    obtain ⟨p, hp⟩ : ∃ p : Nat, nth P j = (p : Int) := ⟨(nth P j).toNat, by have := (HPM.out _ (nthP_mem hjl)).1; omega⟩
                    obtain ⟨q, hq⟩ : ∃ q : Nat, nth Q j = (q : Int) := ⟨(nth Q j).toNat, by have := (HQM.out _ (nthP_mem hjl')).1; omega⟩
                    have hp1 : p < 65536 := by have := (HPM.out _ (nthP_mem hjl)).2; omega
                    have hq1 : q < 65536 := by have := (HQM.out _ (nthP_mem hjl')).2; omega
                    have v7 := tab_cell HT.out.to HT.out.lt hp1
                    have v8 := tab_cell HT.out.back HT.out.lk hq1
                    have HVT := hide (HT.out.vt p hp1)
                    have HVK := hide (HT.out.vk q hq1)
                    have HNS : Hid (nzTo P Q (j + 1) = if (p : Int) = 0 then nzTo P Q j else nzTo P Q j ++ [((p : Int), (q : Int))]) := by show _ = _; rw [nzTo, hp, hq]
                    have HZS : Hid (((p : Int) = 0 ↔ (q : Int) = 0) → ZeroP P Q (j + 1)) := fun h i hi => by
                      by_cases hij : i < j
                      · exact HZP.out i hij
                      · obtain rfl : i = j := by omega
                        rw [hp, hq]; exact h
                    have HZN : Hid (r = true → ((p : Int) = 0 ↔ (q : Int) = 0)) := fun h => by have := (HR1.out.1 h).2.1 j hjl; rw [hp, hq] at this; exact this
                    have HBN : Hid (r = true → Bij (nzTo P Q (j + 1))) := fun h => by
                      have h2 := (HR1.out.1 h).2.2
                      obtain ⟨rest, hr⟩ := nzTo_front (p := P) (q := Q) (show j + 1 ≤ P.length by omega)
                      rw [hr] at h2
                      exact h2.front
                    rw [hp] at v5
                    rw [hq] at v6
                    have k1 := fun s : InC (Below wr.heap.size wr) => s.cell (p := ⟨b5, z5 + j, none⟩) hp5 v5
                    have k2 := fun s : InC (Below wr.heap.size wr) => s.cell (p := ⟨b6, z6 + j, none⟩) hp6 v6
                    have k3 := fun s : InC (Below wr.heap.size wr) => s.cell (p := ⟨T, p, none⟩) hs1 v7
                    have k4 := fun s : InC (Below wr.heap.size wr) => s.cell (p := ⟨K, q, none⟩) hs2 v8
                    have hne : Nonempty (InC (Below wr.heap.size wr)) := ⟨⟨wr, Below.refl _ _⟩⟩
                    have hpp : (0 : Int) ≤ (p : Int) := by omega
                    have hqq : (0 : Int) ≤ (q : Int) := by omega
                    have hpi : (p : Int) < 65536 := by omega
                    have hqi : (q : Int) < 65536 := by omega
                    have HLT : Hid (b5 < T ∧ b6 < T ∧ T < K ∧ w.heap.size < T) := ⟨l5, l6, tk.2.1, by omega⟩
                    clear v5 v6 v7 v8 l5 l6 tk s5 s6 hp hq
                    go_wp2_with fail
                    by_cases h1 : p = 0
                    · subst h1
                      have h1' : (((0 : Nat) : Int) == 0) = true := by simp
                      have h1n : (((0 : Nat) : Int) != 0) = false := by simp
                      by_cases h2 : q = 0
                      · subst h2
                        have HNE2 : Hid (nzTo P Q (j + 1) = nzTo P Q j) := by show _ = _; rw [HNS.out]; simp
                        have HZ2 := hide (HZS.out (by simp))
                        simp only [show ((0 : Nat) : Int) = 0 from rfl] at k1 k2 h1' h1n
                        refine wp_region_class (C := Below wr.heap.size wr) (by kernel_rfl) (by kernel_rfl) (below_drew wr) ?_
                        repeat (go_big_quiet_step (fail))
                        refine wpQuiet_nil ?_
                        rintro _ ⟨sv, rfl⟩
                        have v1 := k1 sv
                        have HB2 := hide (HT.out.bel.trans (sv.ok.mono HT.out.bel.size))
                        have HT2 : Hid (TbB w sv.w T K zt zk (nzTo P Q j)) := ⟨own_below HT.out.to sv.ok, own_below HT.out.back sv.ok, HT.out.lt, HT.out.lk, HT.out.vt, HT.out.vk, HB2.out⟩
                        have HK2 := hide (HKP.out.trans (keepP_below sv.ok))
                        clear hne k1 k2 k3 k4
                        go_wp2_with fail
                        go_roundw
                        case rel => exact ⟨j + 1, zt, zk, by omega, by go_num, by rw [HNE2.out]; exact HT2.out, by rw [HNE2.out]; exact HBI.out, HZ2.out, HK2.out⟩
                        case measure => simp [intOf]; omega
                      · have h2' : ((q : Int) == 0) = false := by simp; omega
                        have HRF : Hid (r = false) := by
                          cases r with
                          | false => rfl
                          | true => exact absurd ((HZN.out rfl).1 rfl) (by omega)
                        simp only [show ((0 : Nat) : Int) = 0 from rfl] at k1 h1' h1n
                        clear h2
                        refine wp_region_class (C := Below wr.heap.size wr) (by kernel_rfl) (by kernel_rfl) (below_drew wr) ?_
                        repeat (go_big_quiet_step (fail))
                        refine wpQuiet_nil ?_
                        rintro _ ⟨sv, rfl⟩
                        have HBF := hide (HT.out.bel.trans (sv.ok.mono HT.out.bel.size))
                        clear hne k1 k2 k3 k4
                        go_wp2_with fail
                        go_ret
                        exact ⟨by rw [HRF.out]; rfl, HBF.out⟩
                    · have h1' : ((p : Int) == 0) = false := by simp; omega
                      have h1n : ((p : Int) != 0) = true := by simp; omega
                      by_cases h2 : q = 0
                      · subst h2
                        have h2' : (((0 : Nat) : Int) == 0) = true := by simp
                        have HRF : Hid (r = false) := by
                          cases r with
                          | false => rfl
                          | true => exact absurd ((HZN.out rfl).2 rfl) (by omega)
                        simp only [show ((0 : Nat) : Int) = 0 from rfl] at k2 h2'
                        clear h1
                        refine wp_region_class (C := Below wr.heap.size wr) (by kernel_rfl) (by kernel_rfl) (below_drew wr) ?_
                        repeat (go_big_quiet_step (fail))
                        refine wpQuiet_nil ?_
                        rintro _ ⟨sv, rfl⟩
                        have HBF := hide (HT.out.bel.trans (sv.ok.mono HT.out.bel.size))
                        clear hne k1 k2 k3 k4
                        go_wp2_with fail
                        go_ret
                        exact ⟨by rw [HRF.out]; rfl, HBF.out⟩
                      · have h2' : ((q : Int) == 0) = false := by simp; omega
                        have HZ2 := hide (HZS.out (by constructor <;> intro h <;> omega))
                        have HN2 : Hid (nzTo P Q (j + 1) = nzTo P Q j ++ [((p : Int), (q : Int))]) := by show _ = _; rw [HNS.out, if_neg (by omega)]
                        have HMY : Hid (Bij (nzTo P Q (j + 1)) ↔ (nth zt p = 0 ∨ nth zt p = (q : Int)) ∧ (nth zk q = 0 ∨ nth zk q = (p : Int))) := by
                          show _ ↔ _
                          rw [HN2.out, HVT.out, HVK.out]
                          exact bij_may HBI.out (by omega) (by omega) (nzTo_no HZP.out)
                        clear h1 h2
                        refine wp_region_class (C := Below wr.heap.size wr) (by kernel_rfl) (by kernel_rfl) (below_drew wr) ?_
                        repeat (go_big_quiet_step (fail))
                        refine wpQuiet_nil ?_
                        rintro _ ⟨sv, rfl⟩
                        have v1 := k1 sv
                        go_wp2_with fail
                        clear v1
                        generalize nth zt p = t at *
                        generalize nth zk q = b at *
                        by_cases t1 : t = 0
                        · have t1' : (t != 0) = false := by simp [t1]
                          have HTO : Hid (t = 0 ∨ t = (q : Int)) := .inl t1
                          clear t1
                          refine wp_region_class (C := Below wr.heap.size wr) (by kernel_rfl) (by kernel_rfl) sv.ok.drew ?_
                          repeat (go_big_quiet_step (fail))
                          refine wpQuiet_nil ?_
                          rintro _ ⟨su, rfl⟩
                          go_wp2_with fail
                          by_cases b1 : b = 0
                          · have b1' : (b != 0) = false := by simp [b1]
                            have HBO : Hid (b = 0 ∨ b = (p : Int)) := .inl b1
                            clear b1
                            refine wp_region_class (C := Below wr.heap.size wr) (by kernel_rfl) (by kernel_rfl) su.ok.drew ?_
                            repeat (go_big_quiet_step (fail))
                            refine wpQuiet_nil ?_
                            rintro _ ⟨sw, rfl⟩
                            have HC3 : Hid (Below wr.heap.size wr sw.w.drew) := sw.ok.drew
                            have HC4 := hide sw.ok
                            clear hne k3 k4
                            go_wp2_with fail
                            have hmix : Try.prog.follows .mixedOrders = true := by kernel_rfl
                            refine (wpIn_wide (n := 0)).1 ?_
                            refine wpIn_normal (wpIn_region_any hmix (wpAnyE_sound (C := Below wr.heap.size wr) (E := fun i => i == 10) _ _ _ _ ?_))
                            change wpAnyE _ _ _ _ _ _ _ _ _ _ _ (World.drew _)
                            generalize sw.w.drew = Wd at *
                            have hC0 : Below wr.heap.size wr Wd := HC3.out
                            have LC : Hid (∀ w', Below wr.heap.size wr w' → w'.cell? ⟨b5, z5 + j, none⟩ = some (.int .u32 (p : Int)) ∧ w'.cell? ⟨b6, z6 + j, none⟩ = some (.int .u32 (q : Int))) := fun w' h => ⟨k1 ⟨w', h⟩, k2 ⟨w', h⟩⟩
                            have hTo := own_below HT.out.to HC3.out
                            have hBa := own_below HT.out.back HC3.out
                            have y1 := tab_cell hTo HT.out.lt hp1
                            have f1 : Wd.frozen? ⟨T, p, none⟩ = false := hTo.frozenAt _
                            obtain ⟨hs5, hg5⟩ := hTo.stored p (.int .u32 (q : Int))
                            rw [← List.map_set] at hs5
                            have hBa5 := hBa.kept hg5 (.inr (by simp [Value.ownBlock]; omega))
                            refine wpAnyE_takeD (i := 0) (some 211) (v := (.slice (some ⟨T, 0, none⟩) 65536 65536)) (fun _ => trivial) (by kernel_rfl) rfl rfl (by kernel_rfl) (by kernel_rfl) (by kernel_rfl) (by kernel_rfl) (fun _ _ _ h => by cases h.1) hC0 (Or.inl ⟨by rfl, fun w' hC => by obtain ⟨e1, e2⟩ := LC.out w' hC; clear hC; go_simp⟩) ?_
                            simp only [Act.put, List.setIfInBounds_toArray, List.set_cons_succ, List.set_cons_zero]
                            refine wpAnyE_takeD (i := 1) (some 212) (v := (.slice (some ⟨b5, z5, none⟩) P.length cp)) (fun _ => trivial) (by kernel_rfl) rfl rfl (by kernel_rfl) (by kernel_rfl) (by kernel_rfl) (by kernel_rfl) (fun _ _ _ h => by cases h.1) hC0 (Or.inl ⟨by rfl, fun w' hC => by obtain ⟨e1, e2⟩ := LC.out w' hC; clear hC; go_simp⟩) ?_
                            simp only [Act.put, List.setIfInBounds_toArray, List.set_cons_succ, List.set_cons_zero]
                            refine wpAnyE_takeD (i := 2) (some 213) (v := (.int .i64 (j : Int))) (fun _ => trivial) (by kernel_rfl) rfl rfl (by kernel_rfl) (by kernel_rfl) (by kernel_rfl) (by kernel_rfl) (fun _ _ _ h => by cases h.1) hC0 (Or.inl ⟨by rfl, fun w' hC => by obtain ⟨e1, e2⟩ := LC.out w' hC; clear hC; go_simp⟩) ?_
                            simp only [Act.put, List.setIfInBounds_toArray, List.set_cons_succ, List.set_cons_zero]
                            refine wpAnyE_takeD (i := 3) (some 214) (v := (.pointer (some ⟨b5, z5 + j, none⟩))) (fun _ => trivial) (by kernel_rfl) rfl rfl (by kernel_rfl) (by kernel_rfl) (by kernel_rfl) (by kernel_rfl) (fun _ _ _ h => by cases h.1) hC0 (Or.inl ⟨by rfl, fun w' hC => by obtain ⟨e1, e2⟩ := LC.out w' hC; clear hC; go_simp⟩) ?_
                            simp only [Act.put, List.setIfInBounds_toArray, List.set_cons_succ, List.set_cons_zero]
                            refine wpAnyE_takeD (i := 4) (some 215) (v := (.int .u32 (p : Int))) (fun _ => trivial) (by kernel_rfl) rfl rfl (by kernel_rfl) (by kernel_rfl) (by kernel_rfl) (by kernel_rfl) (fun _ _ _ h => by cases h.1) hC0 (Or.inl ⟨by rfl, fun w' hC => by obtain ⟨e1, e2⟩ := LC.out w' hC; clear hC; go_simp⟩) ?_
                            simp only [Act.put, List.setIfInBounds_toArray, List.set_cons_succ, List.set_cons_zero]
                            refine wpAnyE_takeD (i := 5) (some 216) (v := (.slice (some ⟨b6, z6, none⟩) Q.length cq)) (fun _ => trivial) (by kernel_rfl) rfl rfl (by kernel_rfl) (by kernel_rfl) (by kernel_rfl) (by kernel_rfl) (fun _ _ _ h => by cases h.1) hC0 (Or.inl ⟨by rfl, fun w' hC => by obtain ⟨e1, e2⟩ := LC.out w' hC; clear hC; go_simp⟩) ?_
                            simp only [Act.put, List.setIfInBounds_toArray, List.set_cons_succ, List.set_cons_zero]
                            refine wpAnyE_takeD (i := 6) (some 217) (v := (.int .i64 (j : Int))) (fun _ => trivial) (by kernel_rfl) rfl rfl (by kernel_rfl) (by kernel_rfl) (by kernel_rfl) (by kernel_rfl) (fun _ _ _ h => by cases h.1) hC0 (Or.inl ⟨by rfl, fun w' hC => by obtain ⟨e1, e2⟩ := LC.out w' hC; clear hC; go_simp⟩) ?_
                            simp only [Act.put, List.setIfInBounds_toArray, List.set_cons_succ, List.set_cons_zero]
                            refine wpAnyE_takeD (i := 7) (some 218) (v := (.pointer (some ⟨b6, z6 + j, none⟩))) (fun _ => trivial) (by kernel_rfl) rfl rfl (by kernel_rfl) (by kernel_rfl) (by kernel_rfl) (by kernel_rfl) (fun _ _ _ h => by cases h.1) hC0 (Or.inl ⟨by rfl, fun w' hC => by obtain ⟨e1, e2⟩ := LC.out w' hC; clear hC; go_simp⟩) ?_
                            simp only [Act.put, List.setIfInBounds_toArray, List.set_cons_succ, List.set_cons_zero]
                            refine wpAnyE_takeD (i := 8) (some 219) (v := (.int .u32 (q : Int))) (fun _ => trivial) (by kernel_rfl) rfl rfl (by kernel_rfl) (by kernel_rfl) (by kernel_rfl) (by kernel_rfl) (fun _ _ _ h => by cases h.1) hC0 (Or.inl ⟨by rfl, fun w' hC => by obtain ⟨e1, e2⟩ := LC.out w' hC; clear hC; go_simp⟩) ?_
                            simp only [Act.put, List.setIfInBounds_toArray, List.set_cons_succ, List.set_cons_zero]
                            refine wpAnyE_takeD (i := 9) (some 220) (v := (.pointer (some ⟨T, p, none⟩))) (fun _ => trivial) (by kernel_rfl) rfl rfl (by kernel_rfl) (by kernel_rfl) (by kernel_rfl) (by kernel_rfl) (fun _ _ _ h => by cases h.1) hC0 (Or.inl ⟨by rfl, fun w' hC => by obtain ⟨e1, e2⟩ := LC.out w' hC; clear hC; go_simp⟩) ?_
                            simp only [Act.put, List.setIfInBounds_toArray, List.set_cons_succ, List.set_cons_zero]
                            refine wpAnyE_ready (rs := [10]) (by kernel_rfl) (by simp) ?_
                            refine AllE.cons rfl (fun Kk hK => ?_) AllE.nil
                            go_simp
                            refine hK _ _ (.inl rfl) ?_
                            clear hK Kk
                            refine wpAnyE_done (by kernel_rfl) ⟨rfl, ?_⟩ _
                            have HLC := hide (LC.out Wd hC0)
                            have hWd := hC0.size
                            have lt := HLT.out
                            have e5 := hg5.cell HLC.out.1 (by simp; omega)
                            have e6 := hg5.cell HLC.out.2 (by simp; omega)
                            clear lt
                            have hKW : K < Wd.heap.size := by omega
                            have hg5s := hg5.size
                            have HG5 := hide hg5
                            have HS5 := hide hs5
                            have HB5 := hide hBa5
                            clear hC0 LC hTo hBa y1 f1 hs5 hg5 hBa5
                            generalize Wd.setCell ⟨T, p, none⟩ (.int .u32 (q : Int)) = Z1 at *
                            rw [then_normalP]
                            go_wp2_with fail
                            have hmix : Try.prog.follows .mixedOrders = true := by kernel_rfl
                            refine (wpIn_wide (n := 0)).1 ?_
                            refine wpIn_normal (wpIn_region_any hmix (wpAnyE_sound (C := Below Z1.heap.size Z1) (E := fun i => i == 10) _ _ _ _ ?_))
                            change wpAnyE _ _ _ _ _ _ _ _ _ _ _ (World.drew _)
                            have hC0 : Below Z1.heap.size Z1 Z1.drew := below_drew Z1
                            have lt := HLT.out
                            have LC : Hid (∀ w', Below Z1.heap.size Z1 w' → w'.cell? ⟨b5, z5 + j, none⟩ = some (.int .u32 (p : Int)) ∧ w'.cell? ⟨b6, z6 + j, none⟩ = some (.int .u32 (q : Int))) := fun w' h => ⟨(h.cell (p := ⟨b5, z5 + j, none⟩) (show b5 < _ by omega)).trans e5, (h.cell (p := ⟨b6, z6 + j, none⟩) (show b6 < _ by omega)).trans e6⟩
                            have hTo := own_below HS5.out hC0
                            have hBa := own_below HB5.out hC0
                            generalize Z1.drew = Wd2 at *
                            have y1 := tab_cell hBa HT.out.lk hq1
                            have f1 : Wd2.frozen? ⟨K, q, none⟩ = false := hBa.frozenAt _
                            obtain ⟨hs6, hg6⟩ := hBa.stored q (.int .u32 (p : Int))
                            rw [← List.map_set] at hs6
                            have hTo6 := hTo.kept hg6 (.inr (by simp [Value.ownBlock]; omega))
                            refine wpAnyE_takeD (i := 0) (some 221) (v := (.slice (some ⟨K, 0, none⟩) 65536 65536)) (fun _ => trivial) (by kernel_rfl) rfl rfl (by kernel_rfl) (by kernel_rfl) (by kernel_rfl) (by kernel_rfl) (fun _ _ _ h => by cases h.1) hC0 (Or.inl ⟨by rfl, fun w' hC => by obtain ⟨e1, e2⟩ := LC.out w' hC; clear hC; go_simp⟩) ?_
                            simp only [Act.put, List.setIfInBounds_toArray, List.set_cons_succ, List.set_cons_zero]
                            refine wpAnyE_takeD (i := 1) (some 222) (v := (.slice (some ⟨b6, z6, none⟩) Q.length cq)) (fun _ => trivial) (by kernel_rfl) rfl rfl (by kernel_rfl) (by kernel_rfl) (by kernel_rfl) (by kernel_rfl) (fun _ _ _ h => by cases h.1) hC0 (Or.inl ⟨by rfl, fun w' hC => by obtain ⟨e1, e2⟩ := LC.out w' hC; clear hC; go_simp⟩) ?_
                            simp only [Act.put, List.setIfInBounds_toArray, List.set_cons_succ, List.set_cons_zero]
                            refine wpAnyE_takeD (i := 2) (some 223) (v := (.int .i64 (j : Int))) (fun _ => trivial) (by kernel_rfl) rfl rfl (by kernel_rfl) (by kernel_rfl) (by kernel_rfl) (by kernel_rfl) (fun _ _ _ h => by cases h.1) hC0 (Or.inl ⟨by rfl, fun w' hC => by obtain ⟨e1, e2⟩ := LC.out w' hC; clear hC; go_simp⟩) ?_
                            simp only [Act.put, List.setIfInBounds_toArray, List.set_cons_succ, List.set_cons_zero]
                            refine wpAnyE_takeD (i := 3) (some 224) (v := (.pointer (some ⟨b6, z6 + j, none⟩))) (fun _ => trivial) (by kernel_rfl) rfl rfl (by kernel_rfl) (by kernel_rfl) (by kernel_rfl) (by kernel_rfl) (fun _ _ _ h => by cases h.1) hC0 (Or.inl ⟨by rfl, fun w' hC => by obtain ⟨e1, e2⟩ := LC.out w' hC; clear hC; go_simp⟩) ?_
                            simp only [Act.put, List.setIfInBounds_toArray, List.set_cons_succ, List.set_cons_zero]
                            refine wpAnyE_takeD (i := 4) (some 225) (v := (.int .u32 (q : Int))) (fun _ => trivial) (by kernel_rfl) rfl rfl (by kernel_rfl) (by kernel_rfl) (by kernel_rfl) (by kernel_rfl) (fun _ _ _ h => by cases h.1) hC0 (Or.inl ⟨by rfl, fun w' hC => by obtain ⟨e1, e2⟩ := LC.out w' hC; clear hC; go_simp⟩) ?_
                            simp only [Act.put, List.setIfInBounds_toArray, List.set_cons_succ, List.set_cons_zero]
                            refine wpAnyE_takeD (i := 5) (some 226) (v := (.slice (some ⟨b5, z5, none⟩) P.length cp)) (fun _ => trivial) (by kernel_rfl) rfl rfl (by kernel_rfl) (by kernel_rfl) (by kernel_rfl) (by kernel_rfl) (fun _ _ _ h => by cases h.1) hC0 (Or.inl ⟨by rfl, fun w' hC => by obtain ⟨e1, e2⟩ := LC.out w' hC; clear hC; go_simp⟩) ?_
                            simp only [Act.put, List.setIfInBounds_toArray, List.set_cons_succ, List.set_cons_zero]
                            refine wpAnyE_takeD (i := 6) (some 227) (v := (.int .i64 (j : Int))) (fun _ => trivial) (by kernel_rfl) rfl rfl (by kernel_rfl) (by kernel_rfl) (by kernel_rfl) (by kernel_rfl) (fun _ _ _ h => by cases h.1) hC0 (Or.inl ⟨by rfl, fun w' hC => by obtain ⟨e1, e2⟩ := LC.out w' hC; clear hC; go_simp⟩) ?_
                            simp only [Act.put, List.setIfInBounds_toArray, List.set_cons_succ, List.set_cons_zero]
                            refine wpAnyE_takeD (i := 7) (some 228) (v := (.pointer (some ⟨b5, z5 + j, none⟩))) (fun _ => trivial) (by kernel_rfl) rfl rfl (by kernel_rfl) (by kernel_rfl) (by kernel_rfl) (by kernel_rfl) (fun _ _ _ h => by cases h.1) hC0 (Or.inl ⟨by rfl, fun w' hC => by obtain ⟨e1, e2⟩ := LC.out w' hC; clear hC; go_simp⟩) ?_
                            simp only [Act.put, List.setIfInBounds_toArray, List.set_cons_succ, List.set_cons_zero]
                            refine wpAnyE_takeD (i := 8) (some 229) (v := (.int .u32 (p : Int))) (fun _ => trivial) (by kernel_rfl) rfl rfl (by kernel_rfl) (by kernel_rfl) (by kernel_rfl) (by kernel_rfl) (fun _ _ _ h => by cases h.1) hC0 (Or.inl ⟨by rfl, fun w' hC => by obtain ⟨e1, e2⟩ := LC.out w' hC; clear hC; go_simp⟩) ?_
                            simp only [Act.put, List.setIfInBounds_toArray, List.set_cons_succ, List.set_cons_zero]
                            refine wpAnyE_takeD (i := 9) (some 230) (v := (.pointer (some ⟨K, q, none⟩))) (fun _ => trivial) (by kernel_rfl) rfl rfl (by kernel_rfl) (by kernel_rfl) (by kernel_rfl) (by kernel_rfl) (fun _ _ _ h => by cases h.1) hC0 (Or.inl ⟨by rfl, fun w' hC => by obtain ⟨e1, e2⟩ := LC.out w' hC; clear hC; go_simp⟩) ?_
                            simp only [Act.put, List.setIfInBounds_toArray, List.set_cons_succ, List.set_cons_zero]
                            refine wpAnyE_ready (rs := [10]) (by kernel_rfl) (by simp) ?_
                            refine AllE.cons rfl (fun Kk hK => ?_) AllE.nil
                            go_simp
                            refine hK _ _ (.inl rfl) ?_
                            clear hK Kk
                            refine wpAnyE_done (by kernel_rfl) ⟨rfl, ?_⟩ _
                            have HBJ := hide (HMY.out.2 ⟨HTO.out, HBO.out⟩)
                            have HF6 : Hid (TbB w (Wd2.setCell ⟨K, q, none⟩ (.int .u32 (p : Int))) T K (zt.set p (q : Int)) (zk.set q (p : Int)) (nzTo P Q (j + 1)) ∧ KeepP T K w9 (Wd2.setCell ⟨K, q, none⟩ (.int .u32 (p : Int)))) := by
                              have hJ := HBJ.out
                              rw [HN2.out] at hJ
                              have hk1 : KeepP T K wr Wd := keepP_below HC3.out
                              have hk2 : KeepP T K Wd Z1 := ⟨HG5.out.os, HG5.out.tape, HG5.out.output, HG5.out.size, fun i hi h1 h2 => HG5.out.block i hi (by simpa using h1)⟩
                              have hk3 : KeepP T K Z1 Wd2 := keepP_below hC0
                              have hk4 : KeepP T K Wd2 (Wd2.setCell ⟨K, q, none⟩ (.int .u32 (p : Int))) := ⟨hg6.os, hg6.tape, hg6.output, hg6.size, fun i hi h1 h2 => hg6.block i hi (by simpa using h2)⟩
                              have hkk := ((hk1.trans hk2).trans hk3).trans hk4
                              refine ⟨⟨hTo6, hs6, by rw [List.length_set]; exact HT.out.lt, by rw [List.length_set]; exact HT.out.lk, fun x hx => ?_, fun x hx => ?_, hkk.bel HT.out.bel (by omega) (by omega)⟩, HKP.out.trans hkk⟩
                              · rw [nth_setA (by rw [HT.out.lt]; exact hp1), HN2.out, thF_join hJ]
                                by_cases e : x = p
                                · rw [if_pos e, if_pos (by omega)]; rfl
                                · rw [if_neg e, if_neg (by omega)]; exact HT.out.vt x hx
                              · rw [nth_setA (by rw [HT.out.lk]; exact hq1), HN2.out, bkF_join hJ]
                                by_cases e : x = q
                                · rw [if_pos e, if_pos (by omega)]; rfl
                                · rw [if_neg e, if_neg (by omega)]; exact HT.out.vk x hx
                            clear hC0 LC hTo hBa y1 f1 hs6 hg6 hTo6 e5 e6 lt
                            generalize Wd2.setCell ⟨K, q, none⟩ (.int .u32 (p : Int)) = Z2 at *
                            rw [inBlock_thenP]
                            go_wp2_with fail
                            go_roundw
                            case rel => exact ⟨j + 1, _, _, by omega, by go_num, HF6.out.1, HBJ.out, HZ2.out, HF6.out.2⟩
                            case measure => simp [intOf]; omega
                          · have b1' : (b != 0) = true := by simpa using b1
                            by_cases b2 : b = (p : Int)
                            · have b2' : (b != (p : Int)) = false := by simp [b2]
                              have HBO : Hid (b = 0 ∨ b = (p : Int)) := .inr b2
                              clear b1 b2
                              refine wp_region_class (C := Below wr.heap.size wr) (by kernel_rfl) (by kernel_rfl) su.ok.drew ?_
                              repeat (go_big_quiet_step (fail))
                              refine wpQuiet_nil ?_
                              rintro _ ⟨sw, rfl⟩
                              have HC3 : Hid (Below wr.heap.size wr sw.w.drew) := sw.ok.drew
                              have HC4 := hide sw.ok
                              clear hne k3 k4
                              go_wp2_with fail
                              have hmix : Try.prog.follows .mixedOrders = true := by kernel_rfl
                              refine (wpIn_wide (n := 0)).1 ?_
                              refine wpIn_normal (wpIn_region_any hmix (wpAnyE_sound (C := Below wr.heap.size wr) (E := fun i => i == 10) _ _ _ _ ?_))
                              change wpAnyE _ _ _ _ _ _ _ _ _ _ _ (World.drew _)
                              generalize sw.w.drew = Wd at *
                              have hC0 : Below wr.heap.size wr Wd := HC3.out
                              have LC : Hid (∀ w', Below wr.heap.size wr w' → w'.cell? ⟨b5, z5 + j, none⟩ = some (.int .u32 (p : Int)) ∧ w'.cell? ⟨b6, z6 + j, none⟩ = some (.int .u32 (q : Int))) := fun w' h => ⟨k1 ⟨w', h⟩, k2 ⟨w', h⟩⟩
                              have hTo := own_below HT.out.to HC3.out
                              have hBa := own_below HT.out.back HC3.out
                              have y1 := tab_cell hTo HT.out.lt hp1
                              have f1 : Wd.frozen? ⟨T, p, none⟩ = false := hTo.frozenAt _
                              obtain ⟨hs5, hg5⟩ := hTo.stored p (.int .u32 (q : Int))
                              rw [← List.map_set] at hs5
                              have hBa5 := hBa.kept hg5 (.inr (by simp [Value.ownBlock]; omega))
                              refine wpAnyE_takeD (i := 0) (some 211) (v := (.slice (some ⟨T, 0, none⟩) 65536 65536)) (fun _ => trivial) (by kernel_rfl) rfl rfl (by kernel_rfl) (by kernel_rfl) (by kernel_rfl) (by kernel_rfl) (fun _ _ _ h => by cases h.1) hC0 (Or.inl ⟨by rfl, fun w' hC => by obtain ⟨e1, e2⟩ := LC.out w' hC; clear hC; go_simp⟩) ?_
                              simp only [Act.put, List.setIfInBounds_toArray, List.set_cons_succ, List.set_cons_zero]
                              refine wpAnyE_takeD (i := 1) (some 212) (v := (.slice (some ⟨b5, z5, none⟩) P.length cp)) (fun _ => trivial) (by kernel_rfl) rfl rfl (by kernel_rfl) (by kernel_rfl) (by kernel_rfl) (by kernel_rfl) (fun _ _ _ h => by cases h.1) hC0 (Or.inl ⟨by rfl, fun w' hC => by obtain ⟨e1, e2⟩ := LC.out w' hC; clear hC; go_simp⟩) ?_
                              simp only [Act.put, List.setIfInBounds_toArray, List.set_cons_succ, List.set_cons_zero]
                              refine wpAnyE_takeD (i := 2) (some 213) (v := (.int .i64 (j : Int))) (fun _ => trivial) (by kernel_rfl) rfl rfl (by kernel_rfl) (by kernel_rfl) (by kernel_rfl) (by kernel_rfl) (fun _ _ _ h => by cases h.1) hC0 (Or.inl ⟨by rfl, fun w' hC => by obtain ⟨e1, e2⟩ := LC.out w' hC; clear hC; go_simp⟩) ?_
                              simp only [Act.put, List.setIfInBounds_toArray, List.set_cons_succ, List.set_cons_zero]
                              refine wpAnyE_takeD (i := 3) (some 214) (v := (.pointer (some ⟨b5, z5 + j, none⟩))) (fun _ => trivial) (by kernel_rfl) rfl rfl (by kernel_rfl) (by kernel_rfl) (by kernel_rfl) (by kernel_rfl) (fun _ _ _ h => by cases h.1) hC0 (Or.inl ⟨by rfl, fun w' hC => by obtain ⟨e1, e2⟩ := LC.out w' hC; clear hC; go_simp⟩) ?_
                              simp only [Act.put, List.setIfInBounds_toArray, List.set_cons_succ, List.set_cons_zero]
                              refine wpAnyE_takeD (i := 4) (some 215) (v := (.int .u32 (p : Int))) (fun _ => trivial) (by kernel_rfl) rfl rfl (by kernel_rfl) (by kernel_rfl) (by kernel_rfl) (by kernel_rfl) (fun _ _ _ h => by cases h.1) hC0 (Or.inl ⟨by rfl, fun w' hC => by obtain ⟨e1, e2⟩ := LC.out w' hC; clear hC; go_simp⟩) ?_
                              simp only [Act.put, List.setIfInBounds_toArray, List.set_cons_succ, List.set_cons_zero]
                              refine wpAnyE_takeD (i := 5) (some 216) (v := (.slice (some ⟨b6, z6, none⟩) Q.length cq)) (fun _ => trivial) (by kernel_rfl) rfl rfl (by kernel_rfl) (by kernel_rfl) (by kernel_rfl) (by kernel_rfl) (fun _ _ _ h => by cases h.1) hC0 (Or.inl ⟨by rfl, fun w' hC => by obtain ⟨e1, e2⟩ := LC.out w' hC; clear hC; go_simp⟩) ?_
                              simp only [Act.put, List.setIfInBounds_toArray, List.set_cons_succ, List.set_cons_zero]
                              refine wpAnyE_takeD (i := 6) (some 217) (v := (.int .i64 (j : Int))) (fun _ => trivial) (by kernel_rfl) rfl rfl (by kernel_rfl) (by kernel_rfl) (by kernel_rfl) (by kernel_rfl) (fun _ _ _ h => by cases h.1) hC0 (Or.inl ⟨by rfl, fun w' hC => by obtain ⟨e1, e2⟩ := LC.out w' hC; clear hC; go_simp⟩) ?_
                              simp only [Act.put, List.setIfInBounds_toArray, List.set_cons_succ, List.set_cons_zero]
                              refine wpAnyE_takeD (i := 7) (some 218) (v := (.pointer (some ⟨b6, z6 + j, none⟩))) (fun _ => trivial) (by kernel_rfl) rfl rfl (by kernel_rfl) (by kernel_rfl) (by kernel_rfl) (by kernel_rfl) (fun _ _ _ h => by cases h.1) hC0 (Or.inl ⟨by rfl, fun w' hC => by obtain ⟨e1, e2⟩ := LC.out w' hC; clear hC; go_simp⟩) ?_
                              simp only [Act.put, List.setIfInBounds_toArray, List.set_cons_succ, List.set_cons_zero]
                              refine wpAnyE_takeD (i := 8) (some 219) (v := (.int .u32 (q : Int))) (fun _ => trivial) (by kernel_rfl) rfl rfl (by kernel_rfl) (by kernel_rfl) (by kernel_rfl) (by kernel_rfl) (fun _ _ _ h => by cases h.1) hC0 (Or.inl ⟨by rfl, fun w' hC => by obtain ⟨e1, e2⟩ := LC.out w' hC; clear hC; go_simp⟩) ?_
                              simp only [Act.put, List.setIfInBounds_toArray, List.set_cons_succ, List.set_cons_zero]
                              refine wpAnyE_takeD (i := 9) (some 220) (v := (.pointer (some ⟨T, p, none⟩))) (fun _ => trivial) (by kernel_rfl) rfl rfl (by kernel_rfl) (by kernel_rfl) (by kernel_rfl) (by kernel_rfl) (fun _ _ _ h => by cases h.1) hC0 (Or.inl ⟨by rfl, fun w' hC => by obtain ⟨e1, e2⟩ := LC.out w' hC; clear hC; go_simp⟩) ?_
                              simp only [Act.put, List.setIfInBounds_toArray, List.set_cons_succ, List.set_cons_zero]
                              refine wpAnyE_ready (rs := [10]) (by kernel_rfl) (by simp) ?_
                              refine AllE.cons rfl (fun Kk hK => ?_) AllE.nil
                              go_simp
                              refine hK _ _ (.inl rfl) ?_
                              clear hK Kk
                              refine wpAnyE_done (by kernel_rfl) ⟨rfl, ?_⟩ _
                              have HLC := hide (LC.out Wd hC0)
                              have hWd := hC0.size
                              have lt := HLT.out
                              have e5 := hg5.cell HLC.out.1 (by simp; omega)
                              have e6 := hg5.cell HLC.out.2 (by simp; omega)
                              clear lt
                              have hKW : K < Wd.heap.size := by omega
                              have hg5s := hg5.size
                              have HG5 := hide hg5
                              have HS5 := hide hs5
                              have HB5 := hide hBa5
                              clear hC0 LC hTo hBa y1 f1 hs5 hg5 hBa5
                              generalize Wd.setCell ⟨T, p, none⟩ (.int .u32 (q : Int)) = Z1 at *
                              rw [then_normalP]
                              go_wp2_with fail
                              have hmix : Try.prog.follows .mixedOrders = true := by kernel_rfl
                              refine (wpIn_wide (n := 0)).1 ?_
                              refine wpIn_normal (wpIn_region_any hmix (wpAnyE_sound (C := Below Z1.heap.size Z1) (E := fun i => i == 10) _ _ _ _ ?_))
                              change wpAnyE _ _ _ _ _ _ _ _ _ _ _ (World.drew _)
                              have hC0 : Below Z1.heap.size Z1 Z1.drew := below_drew Z1
                              have lt := HLT.out
                              have LC : Hid (∀ w', Below Z1.heap.size Z1 w' → w'.cell? ⟨b5, z5 + j, none⟩ = some (.int .u32 (p : Int)) ∧ w'.cell? ⟨b6, z6 + j, none⟩ = some (.int .u32 (q : Int))) := fun w' h => ⟨(h.cell (p := ⟨b5, z5 + j, none⟩) (show b5 < _ by omega)).trans e5, (h.cell (p := ⟨b6, z6 + j, none⟩) (show b6 < _ by omega)).trans e6⟩
                              have hTo := own_below HS5.out hC0
                              have hBa := own_below HB5.out hC0
                              generalize Z1.drew = Wd2 at *
                              have y1 := tab_cell hBa HT.out.lk hq1
                              have f1 : Wd2.frozen? ⟨K, q, none⟩ = false := hBa.frozenAt _
                              obtain ⟨hs6, hg6⟩ := hBa.stored q (.int .u32 (p : Int))
                              rw [← List.map_set] at hs6
                              have hTo6 := hTo.kept hg6 (.inr (by simp [Value.ownBlock]; omega))
                              refine wpAnyE_takeD (i := 0) (some 221) (v := (.slice (some ⟨K, 0, none⟩) 65536 65536)) (fun _ => trivial) (by kernel_rfl) rfl rfl (by kernel_rfl) (by kernel_rfl) (by kernel_rfl) (by kernel_rfl) (fun _ _ _ h => by cases h.1) hC0 (Or.inl ⟨by rfl, fun w' hC => by obtain ⟨e1, e2⟩ := LC.out w' hC; clear hC; go_simp⟩) ?_
                              simp only [Act.put, List.setIfInBounds_toArray, List.set_cons_succ, List.set_cons_zero]
                              refine wpAnyE_takeD (i := 1) (some 222) (v := (.slice (some ⟨b6, z6, none⟩) Q.length cq)) (fun _ => trivial) (by kernel_rfl) rfl rfl (by kernel_rfl) (by kernel_rfl) (by kernel_rfl) (by kernel_rfl) (fun _ _ _ h => by cases h.1) hC0 (Or.inl ⟨by rfl, fun w' hC => by obtain ⟨e1, e2⟩ := LC.out w' hC; clear hC; go_simp⟩) ?_
                              simp only [Act.put, List.setIfInBounds_toArray, List.set_cons_succ, List.set_cons_zero]
                              refine wpAnyE_takeD (i := 2) (some 223) (v := (.int .i64 (j : Int))) (fun _ => trivial) (by kernel_rfl) rfl rfl (by kernel_rfl) (by kernel_rfl) (by kernel_rfl) (by kernel_rfl) (fun _ _ _ h => by cases h.1) hC0 (Or.inl ⟨by rfl, fun w' hC => by obtain ⟨e1, e2⟩ := LC.out w' hC; clear hC; go_simp⟩) ?_
                              simp only [Act.put, List.setIfInBounds_toArray, List.set_cons_succ, List.set_cons_zero]
                              refine wpAnyE_takeD (i := 3) (some 224) (v := (.pointer (some ⟨b6, z6 + j, none⟩))) (fun _ => trivial) (by kernel_rfl) rfl rfl (by kernel_rfl) (by kernel_rfl) (by kernel_rfl) (by kernel_rfl) (fun _ _ _ h => by cases h.1) hC0 (Or.inl ⟨by rfl, fun w' hC => by obtain ⟨e1, e2⟩ := LC.out w' hC; clear hC; go_simp⟩) ?_
                              simp only [Act.put, List.setIfInBounds_toArray, List.set_cons_succ, List.set_cons_zero]
                              refine wpAnyE_takeD (i := 4) (some 225) (v := (.int .u32 (q : Int))) (fun _ => trivial) (by kernel_rfl) rfl rfl (by kernel_rfl) (by kernel_rfl) (by kernel_rfl) (by kernel_rfl) (fun _ _ _ h => by cases h.1) hC0 (Or.inl ⟨by rfl, fun w' hC => by obtain ⟨e1, e2⟩ := LC.out w' hC; clear hC; go_simp⟩) ?_
                              simp only [Act.put, List.setIfInBounds_toArray, List.set_cons_succ, List.set_cons_zero]
                              refine wpAnyE_takeD (i := 5) (some 226) (v := (.slice (some ⟨b5, z5, none⟩) P.length cp)) (fun _ => trivial) (by kernel_rfl) rfl rfl (by kernel_rfl) (by kernel_rfl) (by kernel_rfl) (by kernel_rfl) (fun _ _ _ h => by cases h.1) hC0 (Or.inl ⟨by rfl, fun w' hC => by obtain ⟨e1, e2⟩ := LC.out w' hC; clear hC; go_simp⟩) ?_
                              simp only [Act.put, List.setIfInBounds_toArray, List.set_cons_succ, List.set_cons_zero]
                              refine wpAnyE_takeD (i := 6) (some 227) (v := (.int .i64 (j : Int))) (fun _ => trivial) (by kernel_rfl) rfl rfl (by kernel_rfl) (by kernel_rfl) (by kernel_rfl) (by kernel_rfl) (fun _ _ _ h => by cases h.1) hC0 (Or.inl ⟨by rfl, fun w' hC => by obtain ⟨e1, e2⟩ := LC.out w' hC; clear hC; go_simp⟩) ?_
                              simp only [Act.put, List.setIfInBounds_toArray, List.set_cons_succ, List.set_cons_zero]
                              refine wpAnyE_takeD (i := 7) (some 228) (v := (.pointer (some ⟨b5, z5 + j, none⟩))) (fun _ => trivial) (by kernel_rfl) rfl rfl (by kernel_rfl) (by kernel_rfl) (by kernel_rfl) (by kernel_rfl) (fun _ _ _ h => by cases h.1) hC0 (Or.inl ⟨by rfl, fun w' hC => by obtain ⟨e1, e2⟩ := LC.out w' hC; clear hC; go_simp⟩) ?_
                              simp only [Act.put, List.setIfInBounds_toArray, List.set_cons_succ, List.set_cons_zero]
                              refine wpAnyE_takeD (i := 8) (some 229) (v := (.int .u32 (p : Int))) (fun _ => trivial) (by kernel_rfl) rfl rfl (by kernel_rfl) (by kernel_rfl) (by kernel_rfl) (by kernel_rfl) (fun _ _ _ h => by cases h.1) hC0 (Or.inl ⟨by rfl, fun w' hC => by obtain ⟨e1, e2⟩ := LC.out w' hC; clear hC; go_simp⟩) ?_
                              simp only [Act.put, List.setIfInBounds_toArray, List.set_cons_succ, List.set_cons_zero]
                              refine wpAnyE_takeD (i := 9) (some 230) (v := (.pointer (some ⟨K, q, none⟩))) (fun _ => trivial) (by kernel_rfl) rfl rfl (by kernel_rfl) (by kernel_rfl) (by kernel_rfl) (by kernel_rfl) (fun _ _ _ h => by cases h.1) hC0 (Or.inl ⟨by rfl, fun w' hC => by obtain ⟨e1, e2⟩ := LC.out w' hC; clear hC; go_simp⟩) ?_
                              simp only [Act.put, List.setIfInBounds_toArray, List.set_cons_succ, List.set_cons_zero]
                              refine wpAnyE_ready (rs := [10]) (by kernel_rfl) (by simp) ?_
                              refine AllE.cons rfl (fun Kk hK => ?_) AllE.nil
                              go_simp
                              refine hK _ _ (.inl rfl) ?_
                              clear hK Kk
                              refine wpAnyE_done (by kernel_rfl) ⟨rfl, ?_⟩ _
                              have HBJ := hide (HMY.out.2 ⟨HTO.out, HBO.out⟩)
                              have HF6 : Hid (TbB w (Wd2.setCell ⟨K, q, none⟩ (.int .u32 (p : Int))) T K (zt.set p (q : Int)) (zk.set q (p : Int)) (nzTo P Q (j + 1)) ∧ KeepP T K w9 (Wd2.setCell ⟨K, q, none⟩ (.int .u32 (p : Int)))) := by
                                have hJ := HBJ.out
                                rw [HN2.out] at hJ
                                have hk1 : KeepP T K wr Wd := keepP_below HC3.out
                                have hk2 : KeepP T K Wd Z1 := ⟨HG5.out.os, HG5.out.tape, HG5.out.output, HG5.out.size, fun i hi h1 h2 => HG5.out.block i hi (by simpa using h1)⟩
                                have hk3 : KeepP T K Z1 Wd2 := keepP_below hC0
                                have hk4 : KeepP T K Wd2 (Wd2.setCell ⟨K, q, none⟩ (.int .u32 (p : Int))) := ⟨hg6.os, hg6.tape, hg6.output, hg6.size, fun i hi h1 h2 => hg6.block i hi (by simpa using h2)⟩
                                have hkk := ((hk1.trans hk2).trans hk3).trans hk4
                                refine ⟨⟨hTo6, hs6, by rw [List.length_set]; exact HT.out.lt, by rw [List.length_set]; exact HT.out.lk, fun x hx => ?_, fun x hx => ?_, hkk.bel HT.out.bel (by omega) (by omega)⟩, HKP.out.trans hkk⟩
                                · rw [nth_setA (by rw [HT.out.lt]; exact hp1), HN2.out, thF_join hJ]
                                  by_cases e : x = p
                                  · rw [if_pos e, if_pos (by omega)]; rfl
                                  · rw [if_neg e, if_neg (by omega)]; exact HT.out.vt x hx
                                · rw [nth_setA (by rw [HT.out.lk]; exact hq1), HN2.out, bkF_join hJ]
                                  by_cases e : x = q
                                  · rw [if_pos e, if_pos (by omega)]; rfl
                                  · rw [if_neg e, if_neg (by omega)]; exact HT.out.vk x hx
                              clear hC0 LC hTo hBa y1 f1 hs6 hg6 hTo6 e5 e6 lt
                              generalize Wd2.setCell ⟨K, q, none⟩ (.int .u32 (p : Int)) = Z2 at *
                              rw [inBlock_thenP]
                              go_wp2_with fail
                              go_roundw
                              case rel => exact ⟨j + 1, _, _, by omega, by go_num, HF6.out.1, HBJ.out, HZ2.out, HF6.out.2⟩
                              case measure => simp [intOf]; omega
                            · have b2' : (b != (p : Int)) = true := by simpa using b2
                              have HRF : Hid (r = false) := by
                                cases r with
                                | false => rfl
                                | true => rcases (HMY.out.1 (HBN.out rfl)).2 with h | h; exact absurd h b1; exact absurd h b2
                              clear b1 b2
                              refine wp_region_class (C := Below wr.heap.size wr) (by kernel_rfl) (by kernel_rfl) su.ok.drew ?_
                              repeat (go_big_quiet_step (fail))
                              refine wpQuiet_nil ?_
                              rintro _ ⟨sw, rfl⟩
                              have HBF := hide (HT.out.bel.trans (sw.ok.mono HT.out.bel.size))
                              clear hne k1 k2 k3 k4
                              go_wp2_with fail
                              go_ret
                              exact ⟨by rw [HRF.out]; rfl, HBF.out⟩
                        · have t1' : (t != 0) = true := by simpa using t1
                          by_cases t2 : t = (q : Int)
                          · have t2' : (t != (q : Int)) = false := by simp [t2]
                            have HTO : Hid (t = 0 ∨ t = (q : Int)) := .inr t2
                            clear t1 t2
                            refine wp_region_class (C := Below wr.heap.size wr) (by kernel_rfl) (by kernel_rfl) sv.ok.drew ?_
                            repeat (go_big_quiet_step (fail))
                            refine wpQuiet_nil ?_
                            rintro _ ⟨su, rfl⟩
                            go_wp2_with fail
                            by_cases b1 : b = 0
                            · have b1' : (b != 0) = false := by simp [b1]
                              have HBO : Hid (b = 0 ∨ b = (p : Int)) := .inl b1
                              clear b1
                              refine wp_region_class (C := Below wr.heap.size wr) (by kernel_rfl) (by kernel_rfl) su.ok.drew ?_
                              repeat (go_big_quiet_step (fail))
                              refine wpQuiet_nil ?_
                              rintro _ ⟨sw, rfl⟩
                              have HC3 : Hid (Below wr.heap.size wr sw.w.drew) := sw.ok.drew
                              have HC4 := hide sw.ok
                              clear hne k3 k4
                              go_wp2_with fail
                              have hmix : Try.prog.follows .mixedOrders = true := by kernel_rfl
                              refine (wpIn_wide (n := 0)).1 ?_
                              refine wpIn_normal (wpIn_region_any hmix (wpAnyE_sound (C := Below wr.heap.size wr) (E := fun i => i == 10) _ _ _ _ ?_))
                              change wpAnyE _ _ _ _ _ _ _ _ _ _ _ (World.drew _)
                              generalize sw.w.drew = Wd at *
                              have hC0 : Below wr.heap.size wr Wd := HC3.out
                              have LC : Hid (∀ w', Below wr.heap.size wr w' → w'.cell? ⟨b5, z5 + j, none⟩ = some (.int .u32 (p : Int)) ∧ w'.cell? ⟨b6, z6 + j, none⟩ = some (.int .u32 (q : Int))) := fun w' h => ⟨k1 ⟨w', h⟩, k2 ⟨w', h⟩⟩
                              have hTo := own_below HT.out.to HC3.out
                              have hBa := own_below HT.out.back HC3.out
                              have y1 := tab_cell hTo HT.out.lt hp1
                              have f1 : Wd.frozen? ⟨T, p, none⟩ = false := hTo.frozenAt _
                              obtain ⟨hs5, hg5⟩ := hTo.stored p (.int .u32 (q : Int))
                              rw [← List.map_set] at hs5
                              have hBa5 := hBa.kept hg5 (.inr (by simp [Value.ownBlock]; omega))
                              refine wpAnyE_takeD (i := 0) (some 211) (v := (.slice (some ⟨T, 0, none⟩) 65536 65536)) (fun _ => trivial) (by kernel_rfl) rfl rfl (by kernel_rfl) (by kernel_rfl) (by kernel_rfl) (by kernel_rfl) (fun _ _ _ h => by cases h.1) hC0 (Or.inl ⟨by rfl, fun w' hC => by obtain ⟨e1, e2⟩ := LC.out w' hC; clear hC; go_simp⟩) ?_
                              simp only [Act.put, List.setIfInBounds_toArray, List.set_cons_succ, List.set_cons_zero]
                              refine wpAnyE_takeD (i := 1) (some 212) (v := (.slice (some ⟨b5, z5, none⟩) P.length cp)) (fun _ => trivial) (by kernel_rfl) rfl rfl (by kernel_rfl) (by kernel_rfl) (by kernel_rfl) (by kernel_rfl) (fun _ _ _ h => by cases h.1) hC0 (Or.inl ⟨by rfl, fun w' hC => by obtain ⟨e1, e2⟩ := LC.out w' hC; clear hC; go_simp⟩) ?_
                              simp only [Act.put, List.setIfInBounds_toArray, List.set_cons_succ, List.set_cons_zero]
                              refine wpAnyE_takeD (i := 2) (some 213) (v := (.int .i64 (j : Int))) (fun _ => trivial) (by kernel_rfl) rfl rfl (by kernel_rfl) (by kernel_rfl) (by kernel_rfl) (by kernel_rfl) (fun _ _ _ h => by cases h.1) hC0 (Or.inl ⟨by rfl, fun w' hC => by obtain ⟨e1, e2⟩ := LC.out w' hC; clear hC; go_simp⟩) ?_
                              simp only [Act.put, List.setIfInBounds_toArray, List.set_cons_succ, List.set_cons_zero]
                              refine wpAnyE_takeD (i := 3) (some 214) (v := (.pointer (some ⟨b5, z5 + j, none⟩))) (fun _ => trivial) (by kernel_rfl) rfl rfl (by kernel_rfl) (by kernel_rfl) (by kernel_rfl) (by kernel_rfl) (fun _ _ _ h => by cases h.1) hC0 (Or.inl ⟨by rfl, fun w' hC => by obtain ⟨e1, e2⟩ := LC.out w' hC; clear hC; go_simp⟩) ?_
                              simp only [Act.put, List.setIfInBounds_toArray, List.set_cons_succ, List.set_cons_zero]
                              refine wpAnyE_takeD (i := 4) (some 215) (v := (.int .u32 (p : Int))) (fun _ => trivial) (by kernel_rfl) rfl rfl (by kernel_rfl) (by kernel_rfl) (by kernel_rfl) (by kernel_rfl) (fun _ _ _ h => by cases h.1) hC0 (Or.inl ⟨by rfl, fun w' hC => by obtain ⟨e1, e2⟩ := LC.out w' hC; clear hC; go_simp⟩) ?_
                              simp only [Act.put, List.setIfInBounds_toArray, List.set_cons_succ, List.set_cons_zero]
                              refine wpAnyE_takeD (i := 5) (some 216) (v := (.slice (some ⟨b6, z6, none⟩) Q.length cq)) (fun _ => trivial) (by kernel_rfl) rfl rfl (by kernel_rfl) (by kernel_rfl) (by kernel_rfl) (by kernel_rfl) (fun _ _ _ h => by cases h.1) hC0 (Or.inl ⟨by rfl, fun w' hC => by obtain ⟨e1, e2⟩ := LC.out w' hC; clear hC; go_simp⟩) ?_
                              simp only [Act.put, List.setIfInBounds_toArray, List.set_cons_succ, List.set_cons_zero]
                              refine wpAnyE_takeD (i := 6) (some 217) (v := (.int .i64 (j : Int))) (fun _ => trivial) (by kernel_rfl) rfl rfl (by kernel_rfl) (by kernel_rfl) (by kernel_rfl) (by kernel_rfl) (fun _ _ _ h => by cases h.1) hC0 (Or.inl ⟨by rfl, fun w' hC => by obtain ⟨e1, e2⟩ := LC.out w' hC; clear hC; go_simp⟩) ?_
                              simp only [Act.put, List.setIfInBounds_toArray, List.set_cons_succ, List.set_cons_zero]
                              refine wpAnyE_takeD (i := 7) (some 218) (v := (.pointer (some ⟨b6, z6 + j, none⟩))) (fun _ => trivial) (by kernel_rfl) rfl rfl (by kernel_rfl) (by kernel_rfl) (by kernel_rfl) (by kernel_rfl) (fun _ _ _ h => by cases h.1) hC0 (Or.inl ⟨by rfl, fun w' hC => by obtain ⟨e1, e2⟩ := LC.out w' hC; clear hC; go_simp⟩) ?_
                              simp only [Act.put, List.setIfInBounds_toArray, List.set_cons_succ, List.set_cons_zero]
                              refine wpAnyE_takeD (i := 8) (some 219) (v := (.int .u32 (q : Int))) (fun _ => trivial) (by kernel_rfl) rfl rfl (by kernel_rfl) (by kernel_rfl) (by kernel_rfl) (by kernel_rfl) (fun _ _ _ h => by cases h.1) hC0 (Or.inl ⟨by rfl, fun w' hC => by obtain ⟨e1, e2⟩ := LC.out w' hC; clear hC; go_simp⟩) ?_
                              simp only [Act.put, List.setIfInBounds_toArray, List.set_cons_succ, List.set_cons_zero]
                              refine wpAnyE_takeD (i := 9) (some 220) (v := (.pointer (some ⟨T, p, none⟩))) (fun _ => trivial) (by kernel_rfl) rfl rfl (by kernel_rfl) (by kernel_rfl) (by kernel_rfl) (by kernel_rfl) (fun _ _ _ h => by cases h.1) hC0 (Or.inl ⟨by rfl, fun w' hC => by obtain ⟨e1, e2⟩ := LC.out w' hC; clear hC; go_simp⟩) ?_
                              simp only [Act.put, List.setIfInBounds_toArray, List.set_cons_succ, List.set_cons_zero]
                              refine wpAnyE_ready (rs := [10]) (by kernel_rfl) (by simp) ?_
                              refine AllE.cons rfl (fun Kk hK => ?_) AllE.nil
                              go_simp
                              refine hK _ _ (.inl rfl) ?_
                              clear hK Kk
                              refine wpAnyE_done (by kernel_rfl) ⟨rfl, ?_⟩ _
                              have HLC := hide (LC.out Wd hC0)
                              have hWd := hC0.size
                              have lt := HLT.out
                              have e5 := hg5.cell HLC.out.1 (by simp; omega)
                              have e6 := hg5.cell HLC.out.2 (by simp; omega)
                              clear lt
                              have hKW : K < Wd.heap.size := by omega
                              have hg5s := hg5.size
                              have HG5 := hide hg5
                              have HS5 := hide hs5
                              have HB5 := hide hBa5
                              clear hC0 LC hTo hBa y1 f1 hs5 hg5 hBa5
                              generalize Wd.setCell ⟨T, p, none⟩ (.int .u32 (q : Int)) = Z1 at *
                              rw [then_normalP]
                              go_wp2_with fail
                              have hmix : Try.prog.follows .mixedOrders = true := by kernel_rfl
                              refine (wpIn_wide (n := 0)).1 ?_
                              refine wpIn_normal (wpIn_region_any hmix (wpAnyE_sound (C := Below Z1.heap.size Z1) (E := fun i => i == 10) _ _ _ _ ?_))
                              change wpAnyE _ _ _ _ _ _ _ _ _ _ _ (World.drew _)
                              have hC0 : Below Z1.heap.size Z1 Z1.drew := below_drew Z1
                              have lt := HLT.out
                              have LC : Hid (∀ w', Below Z1.heap.size Z1 w' → w'.cell? ⟨b5, z5 + j, none⟩ = some (.int .u32 (p : Int)) ∧ w'.cell? ⟨b6, z6 + j, none⟩ = some (.int .u32 (q : Int))) := fun w' h => ⟨(h.cell (p := ⟨b5, z5 + j, none⟩) (show b5 < _ by omega)).trans e5, (h.cell (p := ⟨b6, z6 + j, none⟩) (show b6 < _ by omega)).trans e6⟩
                              have hTo := own_below HS5.out hC0
                              have hBa := own_below HB5.out hC0
                              generalize Z1.drew = Wd2 at *
                              have y1 := tab_cell hBa HT.out.lk hq1
                              have f1 : Wd2.frozen? ⟨K, q, none⟩ = false := hBa.frozenAt _
                              obtain ⟨hs6, hg6⟩ := hBa.stored q (.int .u32 (p : Int))
                              rw [← List.map_set] at hs6
                              have hTo6 := hTo.kept hg6 (.inr (by simp [Value.ownBlock]; omega))
                              refine wpAnyE_takeD (i := 0) (some 221) (v := (.slice (some ⟨K, 0, none⟩) 65536 65536)) (fun _ => trivial) (by kernel_rfl) rfl rfl (by kernel_rfl) (by kernel_rfl) (by kernel_rfl) (by kernel_rfl) (fun _ _ _ h => by cases h.1) hC0 (Or.inl ⟨by rfl, fun w' hC => by obtain ⟨e1, e2⟩ := LC.out w' hC; clear hC; go_simp⟩) ?_
                              simp only [Act.put, List.setIfInBounds_toArray, List.set_cons_succ, List.set_cons_zero]
                              refine wpAnyE_takeD (i := 1) (some 222) (v := (.slice (some ⟨b6, z6, none⟩) Q.length cq)) (fun _ => trivial) (by kernel_rfl) rfl rfl (by kernel_rfl) (by kernel_rfl) (by kernel_rfl) (by kernel_rfl) (fun _ _ _ h => by cases h.1) hC0 (Or.inl ⟨by rfl, fun w' hC => by obtain ⟨e1, e2⟩ := LC.out w' hC; clear hC; go_simp⟩) ?_
                              simp only [Act.put, List.setIfInBounds_toArray, List.set_cons_succ, List.set_cons_zero]
                              refine wpAnyE_takeD (i := 2) (some 223) (v := (.int .i64 (j : Int))) (fun _ => trivial) (by kernel_rfl) rfl rfl (by kernel_rfl) (by kernel_rfl) (by kernel_rfl) (by kernel_rfl) (fun _ _ _ h => by cases h.1) hC0 (Or.inl ⟨by rfl, fun w' hC => by obtain ⟨e1, e2⟩ := LC.out w' hC; clear hC; go_simp⟩) ?_
                              simp only [Act.put, List.setIfInBounds_toArray, List.set_cons_succ, List.set_cons_zero]
                              refine wpAnyE_takeD (i := 3) (some 224) (v := (.pointer (some ⟨b6, z6 + j, none⟩))) (fun _ => trivial) (by kernel_rfl) rfl rfl (by kernel_rfl) (by kernel_rfl) (by kernel_rfl) (by kernel_rfl) (fun _ _ _ h => by cases h.1) hC0 (Or.inl ⟨by rfl, fun w' hC => by obtain ⟨e1, e2⟩ := LC.out w' hC; clear hC; go_simp⟩) ?_
                              simp only [Act.put, List.setIfInBounds_toArray, List.set_cons_succ, List.set_cons_zero]
                              refine wpAnyE_takeD (i := 4) (some 225) (v := (.int .u32 (q : Int))) (fun _ => trivial) (by kernel_rfl) rfl rfl (by kernel_rfl) (by kernel_rfl) (by kernel_rfl) (by kernel_rfl) (fun _ _ _ h => by cases h.1) hC0 (Or.inl ⟨by rfl, fun w' hC => by obtain ⟨e1, e2⟩ := LC.out w' hC; clear hC; go_simp⟩) ?_
                              simp only [Act.put, List.setIfInBounds_toArray, List.set_cons_succ, List.set_cons_zero]
                              refine wpAnyE_takeD (i := 5) (some 226) (v := (.slice (some ⟨b5, z5, none⟩) P.length cp)) (fun _ => trivial) (by kernel_rfl) rfl rfl (by kernel_rfl) (by kernel_rfl) (by kernel_rfl) (by kernel_rfl) (fun _ _ _ h => by cases h.1) hC0 (Or.inl ⟨by rfl, fun w' hC => by obtain ⟨e1, e2⟩ := LC.out w' hC; clear hC; go_simp⟩) ?_
                              simp only [Act.put, List.setIfInBounds_toArray, List.set_cons_succ, List.set_cons_zero]
                              refine wpAnyE_takeD (i := 6) (some 227) (v := (.int .i64 (j : Int))) (fun _ => trivial) (by kernel_rfl) rfl rfl (by kernel_rfl) (by kernel_rfl) (by kernel_rfl) (by kernel_rfl) (fun _ _ _ h => by cases h.1) hC0 (Or.inl ⟨by rfl, fun w' hC => by obtain ⟨e1, e2⟩ := LC.out w' hC; clear hC; go_simp⟩) ?_
                              simp only [Act.put, List.setIfInBounds_toArray, List.set_cons_succ, List.set_cons_zero]
                              refine wpAnyE_takeD (i := 7) (some 228) (v := (.pointer (some ⟨b5, z5 + j, none⟩))) (fun _ => trivial) (by kernel_rfl) rfl rfl (by kernel_rfl) (by kernel_rfl) (by kernel_rfl) (by kernel_rfl) (fun _ _ _ h => by cases h.1) hC0 (Or.inl ⟨by rfl, fun w' hC => by obtain ⟨e1, e2⟩ := LC.out w' hC; clear hC; go_simp⟩) ?_
                              simp only [Act.put, List.setIfInBounds_toArray, List.set_cons_succ, List.set_cons_zero]
                              refine wpAnyE_takeD (i := 8) (some 229) (v := (.int .u32 (p : Int))) (fun _ => trivial) (by kernel_rfl) rfl rfl (by kernel_rfl) (by kernel_rfl) (by kernel_rfl) (by kernel_rfl) (fun _ _ _ h => by cases h.1) hC0 (Or.inl ⟨by rfl, fun w' hC => by obtain ⟨e1, e2⟩ := LC.out w' hC; clear hC; go_simp⟩) ?_
                              simp only [Act.put, List.setIfInBounds_toArray, List.set_cons_succ, List.set_cons_zero]
                              refine wpAnyE_takeD (i := 9) (some 230) (v := (.pointer (some ⟨K, q, none⟩))) (fun _ => trivial) (by kernel_rfl) rfl rfl (by kernel_rfl) (by kernel_rfl) (by kernel_rfl) (by kernel_rfl) (fun _ _ _ h => by cases h.1) hC0 (Or.inl ⟨by rfl, fun w' hC => by obtain ⟨e1, e2⟩ := LC.out w' hC; clear hC; go_simp⟩) ?_
                              simp only [Act.put, List.setIfInBounds_toArray, List.set_cons_succ, List.set_cons_zero]
                              refine wpAnyE_ready (rs := [10]) (by kernel_rfl) (by simp) ?_
                              refine AllE.cons rfl (fun Kk hK => ?_) AllE.nil
                              go_simp
                              refine hK _ _ (.inl rfl) ?_
                              clear hK Kk
                              refine wpAnyE_done (by kernel_rfl) ⟨rfl, ?_⟩ _
                              have HBJ := hide (HMY.out.2 ⟨HTO.out, HBO.out⟩)
                              have HF6 : Hid (TbB w (Wd2.setCell ⟨K, q, none⟩ (.int .u32 (p : Int))) T K (zt.set p (q : Int)) (zk.set q (p : Int)) (nzTo P Q (j + 1)) ∧ KeepP T K w9 (Wd2.setCell ⟨K, q, none⟩ (.int .u32 (p : Int)))) := by
                                have hJ := HBJ.out
                                rw [HN2.out] at hJ
                                have hk1 : KeepP T K wr Wd := keepP_below HC3.out
                                have hk2 : KeepP T K Wd Z1 := ⟨HG5.out.os, HG5.out.tape, HG5.out.output, HG5.out.size, fun i hi h1 h2 => HG5.out.block i hi (by simpa using h1)⟩
                                have hk3 : KeepP T K Z1 Wd2 := keepP_below hC0
                                have hk4 : KeepP T K Wd2 (Wd2.setCell ⟨K, q, none⟩ (.int .u32 (p : Int))) := ⟨hg6.os, hg6.tape, hg6.output, hg6.size, fun i hi h1 h2 => hg6.block i hi (by simpa using h2)⟩
                                have hkk := ((hk1.trans hk2).trans hk3).trans hk4
                                refine ⟨⟨hTo6, hs6, by rw [List.length_set]; exact HT.out.lt, by rw [List.length_set]; exact HT.out.lk, fun x hx => ?_, fun x hx => ?_, hkk.bel HT.out.bel (by omega) (by omega)⟩, HKP.out.trans hkk⟩
                                · rw [nth_setA (by rw [HT.out.lt]; exact hp1), HN2.out, thF_join hJ]
                                  by_cases e : x = p
                                  · rw [if_pos e, if_pos (by omega)]; rfl
                                  · rw [if_neg e, if_neg (by omega)]; exact HT.out.vt x hx
                                · rw [nth_setA (by rw [HT.out.lk]; exact hq1), HN2.out, bkF_join hJ]
                                  by_cases e : x = q
                                  · rw [if_pos e, if_pos (by omega)]; rfl
                                  · rw [if_neg e, if_neg (by omega)]; exact HT.out.vk x hx
                              clear hC0 LC hTo hBa y1 f1 hs6 hg6 hTo6 e5 e6 lt
                              generalize Wd2.setCell ⟨K, q, none⟩ (.int .u32 (p : Int)) = Z2 at *
                              rw [inBlock_thenP]
                              go_wp2_with fail
                              go_roundw
                              case rel => exact ⟨j + 1, _, _, by omega, by go_num, HF6.out.1, HBJ.out, HZ2.out, HF6.out.2⟩
                              case measure => simp [intOf]; omega
                            · have b1' : (b != 0) = true := by simpa using b1
                              by_cases b2 : b = (p : Int)
                              · have b2' : (b != (p : Int)) = false := by simp [b2]
                                have HBO : Hid (b = 0 ∨ b = (p : Int)) := .inr b2
                                clear b1 b2
                                refine wp_region_class (C := Below wr.heap.size wr) (by kernel_rfl) (by kernel_rfl) su.ok.drew ?_
                                repeat (go_big_quiet_step (fail))
                                refine wpQuiet_nil ?_
                                rintro _ ⟨sw, rfl⟩
                                have HC3 : Hid (Below wr.heap.size wr sw.w.drew) := sw.ok.drew
                                have HC4 := hide sw.ok
                                clear hne k3 k4
                                go_wp2_with fail
                                have hmix : Try.prog.follows .mixedOrders = true := by kernel_rfl
                                refine (wpIn_wide (n := 0)).1 ?_
                                refine wpIn_normal (wpIn_region_any hmix (wpAnyE_sound (C := Below wr.heap.size wr) (E := fun i => i == 10) _ _ _ _ ?_))
                                change wpAnyE _ _ _ _ _ _ _ _ _ _ _ (World.drew _)
                                generalize sw.w.drew = Wd at *
                                have hC0 : Below wr.heap.size wr Wd := HC3.out
                                have LC : Hid (∀ w', Below wr.heap.size wr w' → w'.cell? ⟨b5, z5 + j, none⟩ = some (.int .u32 (p : Int)) ∧ w'.cell? ⟨b6, z6 + j, none⟩ = some (.int .u32 (q : Int))) := fun w' h => ⟨k1 ⟨w', h⟩, k2 ⟨w', h⟩⟩
                                have hTo := own_below HT.out.to HC3.out
                                have hBa := own_below HT.out.back HC3.out
                                have y1 := tab_cell hTo HT.out.lt hp1
                                have f1 : Wd.frozen? ⟨T, p, none⟩ = false := hTo.frozenAt _
                                obtain ⟨hs5, hg5⟩ := hTo.stored p (.int .u32 (q : Int))
                                rw [← List.map_set] at hs5
                                have hBa5 := hBa.kept hg5 (.inr (by simp [Value.ownBlock]; omega))
                                refine wpAnyE_takeD (i := 0) (some 211) (v := (.slice (some ⟨T, 0, none⟩) 65536 65536)) (fun _ => trivial) (by kernel_rfl) rfl rfl (by kernel_rfl) (by kernel_rfl) (by kernel_rfl) (by kernel_rfl) (fun _ _ _ h => by cases h.1) hC0 (Or.inl ⟨by rfl, fun w' hC => by obtain ⟨e1, e2⟩ := LC.out w' hC; clear hC; go_simp⟩) ?_
                                simp only [Act.put, List.setIfInBounds_toArray, List.set_cons_succ, List.set_cons_zero]
                                refine wpAnyE_takeD (i := 1) (some 212) (v := (.slice (some ⟨b5, z5, none⟩) P.length cp)) (fun _ => trivial) (by kernel_rfl) rfl rfl (by kernel_rfl) (by kernel_rfl) (by kernel_rfl) (by kernel_rfl) (fun _ _ _ h => by cases h.1) hC0 (Or.inl ⟨by rfl, fun w' hC => by obtain ⟨e1, e2⟩ := LC.out w' hC; clear hC; go_simp⟩) ?_
                                simp only [Act.put, List.setIfInBounds_toArray, List.set_cons_succ, List.set_cons_zero]
                                refine wpAnyE_takeD (i := 2) (some 213) (v := (.int .i64 (j : Int))) (fun _ => trivial) (by kernel_rfl) rfl rfl (by kernel_rfl) (by kernel_rfl) (by kernel_rfl) (by kernel_rfl) (fun _ _ _ h => by cases h.1) hC0 (Or.inl ⟨by rfl, fun w' hC => by obtain ⟨e1, e2⟩ := LC.out w' hC; clear hC; go_simp⟩) ?_
                                simp only [Act.put, List.setIfInBounds_toArray, List.set_cons_succ, List.set_cons_zero]
                                refine wpAnyE_takeD (i := 3) (some 214) (v := (.pointer (some ⟨b5, z5 + j, none⟩))) (fun _ => trivial) (by kernel_rfl) rfl rfl (by kernel_rfl) (by kernel_rfl) (by kernel_rfl) (by kernel_rfl) (fun _ _ _ h => by cases h.1) hC0 (Or.inl ⟨by rfl, fun w' hC => by obtain ⟨e1, e2⟩ := LC.out w' hC; clear hC; go_simp⟩) ?_
                                simp only [Act.put, List.setIfInBounds_toArray, List.set_cons_succ, List.set_cons_zero]
                                refine wpAnyE_takeD (i := 4) (some 215) (v := (.int .u32 (p : Int))) (fun _ => trivial) (by kernel_rfl) rfl rfl (by kernel_rfl) (by kernel_rfl) (by kernel_rfl) (by kernel_rfl) (fun _ _ _ h => by cases h.1) hC0 (Or.inl ⟨by rfl, fun w' hC => by obtain ⟨e1, e2⟩ := LC.out w' hC; clear hC; go_simp⟩) ?_
                                simp only [Act.put, List.setIfInBounds_toArray, List.set_cons_succ, List.set_cons_zero]
                                refine wpAnyE_takeD (i := 5) (some 216) (v := (.slice (some ⟨b6, z6, none⟩) Q.length cq)) (fun _ => trivial) (by kernel_rfl) rfl rfl (by kernel_rfl) (by kernel_rfl) (by kernel_rfl) (by kernel_rfl) (fun _ _ _ h => by cases h.1) hC0 (Or.inl ⟨by rfl, fun w' hC => by obtain ⟨e1, e2⟩ := LC.out w' hC; clear hC; go_simp⟩) ?_
                                simp only [Act.put, List.setIfInBounds_toArray, List.set_cons_succ, List.set_cons_zero]
                                refine wpAnyE_takeD (i := 6) (some 217) (v := (.int .i64 (j : Int))) (fun _ => trivial) (by kernel_rfl) rfl rfl (by kernel_rfl) (by kernel_rfl) (by kernel_rfl) (by kernel_rfl) (fun _ _ _ h => by cases h.1) hC0 (Or.inl ⟨by rfl, fun w' hC => by obtain ⟨e1, e2⟩ := LC.out w' hC; clear hC; go_simp⟩) ?_
                                simp only [Act.put, List.setIfInBounds_toArray, List.set_cons_succ, List.set_cons_zero]
                                refine wpAnyE_takeD (i := 7) (some 218) (v := (.pointer (some ⟨b6, z6 + j, none⟩))) (fun _ => trivial) (by kernel_rfl) rfl rfl (by kernel_rfl) (by kernel_rfl) (by kernel_rfl) (by kernel_rfl) (fun _ _ _ h => by cases h.1) hC0 (Or.inl ⟨by rfl, fun w' hC => by obtain ⟨e1, e2⟩ := LC.out w' hC; clear hC; go_simp⟩) ?_
                                simp only [Act.put, List.setIfInBounds_toArray, List.set_cons_succ, List.set_cons_zero]
                                refine wpAnyE_takeD (i := 8) (some 219) (v := (.int .u32 (q : Int))) (fun _ => trivial) (by kernel_rfl) rfl rfl (by kernel_rfl) (by kernel_rfl) (by kernel_rfl) (by kernel_rfl) (fun _ _ _ h => by cases h.1) hC0 (Or.inl ⟨by rfl, fun w' hC => by obtain ⟨e1, e2⟩ := LC.out w' hC; clear hC; go_simp⟩) ?_
                                simp only [Act.put, List.setIfInBounds_toArray, List.set_cons_succ, List.set_cons_zero]
                                refine wpAnyE_takeD (i := 9) (some 220) (v := (.pointer (some ⟨T, p, none⟩))) (fun _ => trivial) (by kernel_rfl) rfl rfl (by kernel_rfl) (by kernel_rfl) (by kernel_rfl) (by kernel_rfl) (fun _ _ _ h => by cases h.1) hC0 (Or.inl ⟨by rfl, fun w' hC => by obtain ⟨e1, e2⟩ := LC.out w' hC; clear hC; go_simp⟩) ?_
                                simp only [Act.put, List.setIfInBounds_toArray, List.set_cons_succ, List.set_cons_zero]
                                refine wpAnyE_ready (rs := [10]) (by kernel_rfl) (by simp) ?_
                                refine AllE.cons rfl (fun Kk hK => ?_) AllE.nil
                                go_simp
                                refine hK _ _ (.inl rfl) ?_
                                clear hK Kk
                                refine wpAnyE_done (by kernel_rfl) ⟨rfl, ?_⟩ _
                                have HLC := hide (LC.out Wd hC0)
                                have hWd := hC0.size
                                have lt := HLT.out
                                have e5 := hg5.cell HLC.out.1 (by simp; omega)
                                have e6 := hg5.cell HLC.out.2 (by simp; omega)
                                clear lt
                                have hKW : K < Wd.heap.size := by omega
                                have hg5s := hg5.size
                                have HG5 := hide hg5
                                have HS5 := hide hs5
                                have HB5 := hide hBa5
                                clear hC0 LC hTo hBa y1 f1 hs5 hg5 hBa5
                                generalize Wd.setCell ⟨T, p, none⟩ (.int .u32 (q : Int)) = Z1 at *
                                rw [then_normalP]
                                go_wp2_with fail
                                have hmix : Try.prog.follows .mixedOrders = true := by kernel_rfl
                                refine (wpIn_wide (n := 0)).1 ?_
                                refine wpIn_normal (wpIn_region_any hmix (wpAnyE_sound (C := Below Z1.heap.size Z1) (E := fun i => i == 10) _ _ _ _ ?_))
                                change wpAnyE _ _ _ _ _ _ _ _ _ _ _ (World.drew _)
                                have hC0 : Below Z1.heap.size Z1 Z1.drew := below_drew Z1
                                have lt := HLT.out
                                have LC : Hid (∀ w', Below Z1.heap.size Z1 w' → w'.cell? ⟨b5, z5 + j, none⟩ = some (.int .u32 (p : Int)) ∧ w'.cell? ⟨b6, z6 + j, none⟩ = some (.int .u32 (q : Int))) := fun w' h => ⟨(h.cell (p := ⟨b5, z5 + j, none⟩) (show b5 < _ by omega)).trans e5, (h.cell (p := ⟨b6, z6 + j, none⟩) (show b6 < _ by omega)).trans e6⟩
                                have hTo := own_below HS5.out hC0
                                have hBa := own_below HB5.out hC0
                                generalize Z1.drew = Wd2 at *
                                have y1 := tab_cell hBa HT.out.lk hq1
                                have f1 : Wd2.frozen? ⟨K, q, none⟩ = false := hBa.frozenAt _
                                obtain ⟨hs6, hg6⟩ := hBa.stored q (.int .u32 (p : Int))
                                rw [← List.map_set] at hs6
                                have hTo6 := hTo.kept hg6 (.inr (by simp [Value.ownBlock]; omega))
                                refine wpAnyE_takeD (i := 0) (some 221) (v := (.slice (some ⟨K, 0, none⟩) 65536 65536)) (fun _ => trivial) (by kernel_rfl) rfl rfl (by kernel_rfl) (by kernel_rfl) (by kernel_rfl) (by kernel_rfl) (fun _ _ _ h => by cases h.1) hC0 (Or.inl ⟨by rfl, fun w' hC => by obtain ⟨e1, e2⟩ := LC.out w' hC; clear hC; go_simp⟩) ?_
                                simp only [Act.put, List.setIfInBounds_toArray, List.set_cons_succ, List.set_cons_zero]
                                refine wpAnyE_takeD (i := 1) (some 222) (v := (.slice (some ⟨b6, z6, none⟩) Q.length cq)) (fun _ => trivial) (by kernel_rfl) rfl rfl (by kernel_rfl) (by kernel_rfl) (by kernel_rfl) (by kernel_rfl) (fun _ _ _ h => by cases h.1) hC0 (Or.inl ⟨by rfl, fun w' hC => by obtain ⟨e1, e2⟩ := LC.out w' hC; clear hC; go_simp⟩) ?_
                                simp only [Act.put, List.setIfInBounds_toArray, List.set_cons_succ, List.set_cons_zero]
                                refine wpAnyE_takeD (i := 2) (some 223) (v := (.int .i64 (j : Int))) (fun _ => trivial) (by kernel_rfl) rfl rfl (by kernel_rfl) (by kernel_rfl) (by kernel_rfl) (by kernel_rfl) (fun _ _ _ h => by cases h.1) hC0 (Or.inl ⟨by rfl, fun w' hC => by obtain ⟨e1, e2⟩ := LC.out w' hC; clear hC; go_simp⟩) ?_
                                simp only [Act.put, List.setIfInBounds_toArray, List.set_cons_succ, List.set_cons_zero]
                                refine wpAnyE_takeD (i := 3) (some 224) (v := (.pointer (some ⟨b6, z6 + j, none⟩))) (fun _ => trivial) (by kernel_rfl) rfl rfl (by kernel_rfl) (by kernel_rfl) (by kernel_rfl) (by kernel_rfl) (fun _ _ _ h => by cases h.1) hC0 (Or.inl ⟨by rfl, fun w' hC => by obtain ⟨e1, e2⟩ := LC.out w' hC; clear hC; go_simp⟩) ?_
                                simp only [Act.put, List.setIfInBounds_toArray, List.set_cons_succ, List.set_cons_zero]
                                refine wpAnyE_takeD (i := 4) (some 225) (v := (.int .u32 (q : Int))) (fun _ => trivial) (by kernel_rfl) rfl rfl (by kernel_rfl) (by kernel_rfl) (by kernel_rfl) (by kernel_rfl) (fun _ _ _ h => by cases h.1) hC0 (Or.inl ⟨by rfl, fun w' hC => by obtain ⟨e1, e2⟩ := LC.out w' hC; clear hC; go_simp⟩) ?_
                                simp only [Act.put, List.setIfInBounds_toArray, List.set_cons_succ, List.set_cons_zero]
                                refine wpAnyE_takeD (i := 5) (some 226) (v := (.slice (some ⟨b5, z5, none⟩) P.length cp)) (fun _ => trivial) (by kernel_rfl) rfl rfl (by kernel_rfl) (by kernel_rfl) (by kernel_rfl) (by kernel_rfl) (fun _ _ _ h => by cases h.1) hC0 (Or.inl ⟨by rfl, fun w' hC => by obtain ⟨e1, e2⟩ := LC.out w' hC; clear hC; go_simp⟩) ?_
                                simp only [Act.put, List.setIfInBounds_toArray, List.set_cons_succ, List.set_cons_zero]
                                refine wpAnyE_takeD (i := 6) (some 227) (v := (.int .i64 (j : Int))) (fun _ => trivial) (by kernel_rfl) rfl rfl (by kernel_rfl) (by kernel_rfl) (by kernel_rfl) (by kernel_rfl) (fun _ _ _ h => by cases h.1) hC0 (Or.inl ⟨by rfl, fun w' hC => by obtain ⟨e1, e2⟩ := LC.out w' hC; clear hC; go_simp⟩) ?_
                                simp only [Act.put, List.setIfInBounds_toArray, List.set_cons_succ, List.set_cons_zero]
                                refine wpAnyE_takeD (i := 7) (some 228) (v := (.pointer (some ⟨b5, z5 + j, none⟩))) (fun _ => trivial) (by kernel_rfl) rfl rfl (by kernel_rfl) (by kernel_rfl) (by kernel_rfl) (by kernel_rfl) (fun _ _ _ h => by cases h.1) hC0 (Or.inl ⟨by rfl, fun w' hC => by obtain ⟨e1, e2⟩ := LC.out w' hC; clear hC; go_simp⟩) ?_
                                simp only [Act.put, List.setIfInBounds_toArray, List.set_cons_succ, List.set_cons_zero]
                                refine wpAnyE_takeD (i := 8) (some 229) (v := (.int .u32 (p : Int))) (fun _ => trivial) (by kernel_rfl) rfl rfl (by kernel_rfl) (by kernel_rfl) (by kernel_rfl) (by kernel_rfl) (fun _ _ _ h => by cases h.1) hC0 (Or.inl ⟨by rfl, fun w' hC => by obtain ⟨e1, e2⟩ := LC.out w' hC; clear hC; go_simp⟩) ?_
                                simp only [Act.put, List.setIfInBounds_toArray, List.set_cons_succ, List.set_cons_zero]
                                refine wpAnyE_takeD (i := 9) (some 230) (v := (.pointer (some ⟨K, q, none⟩))) (fun _ => trivial) (by kernel_rfl) rfl rfl (by kernel_rfl) (by kernel_rfl) (by kernel_rfl) (by kernel_rfl) (fun _ _ _ h => by cases h.1) hC0 (Or.inl ⟨by rfl, fun w' hC => by obtain ⟨e1, e2⟩ := LC.out w' hC; clear hC; go_simp⟩) ?_
                                simp only [Act.put, List.setIfInBounds_toArray, List.set_cons_succ, List.set_cons_zero]
                                refine wpAnyE_ready (rs := [10]) (by kernel_rfl) (by simp) ?_
                                refine AllE.cons rfl (fun Kk hK => ?_) AllE.nil
                                go_simp
                                refine hK _ _ (.inl rfl) ?_
                                clear hK Kk
                                refine wpAnyE_done (by kernel_rfl) ⟨rfl, ?_⟩ _
                                have HBJ := hide (HMY.out.2 ⟨HTO.out, HBO.out⟩)
                                have HF6 : Hid (TbB w (Wd2.setCell ⟨K, q, none⟩ (.int .u32 (p : Int))) T K (zt.set p (q : Int)) (zk.set q (p : Int)) (nzTo P Q (j + 1)) ∧ KeepP T K w9 (Wd2.setCell ⟨K, q, none⟩ (.int .u32 (p : Int)))) := by
                                  have hJ := HBJ.out
                                  rw [HN2.out] at hJ
                                  have hk1 : KeepP T K wr Wd := keepP_below HC3.out
                                  have hk2 : KeepP T K Wd Z1 := ⟨HG5.out.os, HG5.out.tape, HG5.out.output, HG5.out.size, fun i hi h1 h2 => HG5.out.block i hi (by simpa using h1)⟩
                                  have hk3 : KeepP T K Z1 Wd2 := keepP_below hC0
                                  have hk4 : KeepP T K Wd2 (Wd2.setCell ⟨K, q, none⟩ (.int .u32 (p : Int))) := ⟨hg6.os, hg6.tape, hg6.output, hg6.size, fun i hi h1 h2 => hg6.block i hi (by simpa using h2)⟩
                                  have hkk := ((hk1.trans hk2).trans hk3).trans hk4
                                  refine ⟨⟨hTo6, hs6, by rw [List.length_set]; exact HT.out.lt, by rw [List.length_set]; exact HT.out.lk, fun x hx => ?_, fun x hx => ?_, hkk.bel HT.out.bel (by omega) (by omega)⟩, HKP.out.trans hkk⟩
                                  · rw [nth_setA (by rw [HT.out.lt]; exact hp1), HN2.out, thF_join hJ]
                                    by_cases e : x = p
                                    · rw [if_pos e, if_pos (by omega)]; rfl
                                    · rw [if_neg e, if_neg (by omega)]; exact HT.out.vt x hx
                                  · rw [nth_setA (by rw [HT.out.lk]; exact hq1), HN2.out, bkF_join hJ]
                                    by_cases e : x = q
                                    · rw [if_pos e, if_pos (by omega)]; rfl
                                    · rw [if_neg e, if_neg (by omega)]; exact HT.out.vk x hx
                                clear hC0 LC hTo hBa y1 f1 hs6 hg6 hTo6 e5 e6 lt
                                generalize Wd2.setCell ⟨K, q, none⟩ (.int .u32 (p : Int)) = Z2 at *
                                rw [inBlock_thenP]
                                go_wp2_with fail
                                go_roundw
                                case rel => exact ⟨j + 1, _, _, by omega, by go_num, HF6.out.1, HBJ.out, HZ2.out, HF6.out.2⟩
                                case measure => simp [intOf]; omega
                              · have b2' : (b != (p : Int)) = true := by simpa using b2
                                have HRF : Hid (r = false) := by
                                  cases r with
                                  | false => rfl
                                  | true => rcases (HMY.out.1 (HBN.out rfl)).2 with h | h; exact absurd h b1; exact absurd h b2
                                clear b1 b2
                                refine wp_region_class (C := Below wr.heap.size wr) (by kernel_rfl) (by kernel_rfl) su.ok.drew ?_
                                repeat (go_big_quiet_step (fail))
                                refine wpQuiet_nil ?_
                                rintro _ ⟨sw, rfl⟩
                                have HBF := hide (HT.out.bel.trans (sw.ok.mono HT.out.bel.size))
                                clear hne k1 k2 k3 k4
                                go_wp2_with fail
                                go_ret
                                exact ⟨by rw [HRF.out]; rfl, HBF.out⟩
                          · have t2' : (t != (q : Int)) = true := by simpa using t2
                            have HRF : Hid (r = false) := by
                              cases r with
                              | false => rfl
                              | true => rcases (HMY.out.1 (HBN.out rfl)).1 with h | h; exact absurd h t1; exact absurd h t2
                            clear t1 t2
                            refine wp_region_class (C := Below wr.heap.size wr) (by kernel_rfl) (by kernel_rfl) sv.ok.drew ?_
                            repeat (go_big_quiet_step (fail))
                            refine wpQuiet_nil ?_
                            rintro _ ⟨su, rfl⟩
                            have HBF := hide (HT.out.bel.trans (su.ok.mono HT.out.bel.size))
                            clear hne k1 k2 k3 k4
                            go_wp2_with fail
                            go_ret
                            exact ⟨by rw [HRF.out]; rfl, HBF.out⟩
                  · obtain rfl : j = P.length := by omega
                    have HRT : Hid (r = true) := HR1.out.2 ⟨HPQ.out, HZP.out, HBI.out⟩
                    have HBF := hide HT.out.bel
                    go_wp2_with fail
                    go_ret
                    exact ⟨by rw [HRT.out]; rfl, HBF.out⟩
              · have hpq : ((P.length : Int) != (Q.length : Int)) = true := by simp; omega
                have HRF : Hid (r = false) := by
                  cases r with
                  | false => rfl
                  | true => exact absurd (HR1.out.1 rfl).1 hPQ
                have HBF := hide HA8.out.bel
                clear hPQ
                go_wp2_with fail
                go_ret
                exact ⟨by rw [HRF.out]; rfl, HBF.out⟩
        · have hnn : ((na : Int) != (nb : Int)) = true := by simp; omega
          have HRF : Hid (r = false) := by
            cases r with
            | false => rfl
            | true => exact absurd (HR0.out.1 rfl).2.2.2.1 hN
          clear hN
          go_wp2_with fail
          go_ret
          exact ⟨by rw [HRF.out]; rfl, HBE.out⟩
      · have hgg : (ga != gb) = true := by simpa using hG
        have HRF : Hid (r = false) := by
          cases r with
          | false => rfl
          | true => exact absurd (HR0.out.1 rfl).2.2.1 hG
        clear hG
        go_wp2_with fail
        go_ret
        exact ⟨by rw [HRF.out]; rfl, HBE.out⟩
    · have hE2' : (E2 != 0) = true := by simpa using hE2
      have HRF : Hid (r = false) := by
        cases r with
        | false => rfl
        | true => exact absurd (HR0.out.1 rfl).2.1 hE2
      clear hE2
      go_wp2_with fail
      go_ret
      exact ⟨by rw [HRF.out]; rfl, HBE.out⟩
  · have hE1' : (E1 != 0) = true := by simpa using hE1
    have HRF : Hid (r = false) := by
      cases r with
      | false => rfl
      | true => exact absurd (HR0.out.1 rfl).1 hE1
    clear hE1
    go_wp2_with fail
    go_ret
    exact ⟨by rw [HRF.out]; rfl, HBE.out⟩

end Go.Proofs.Ytjckgnpbjekhbaa
