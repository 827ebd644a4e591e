/-
  Texts laid together in one: CodeRargs, RowI, Draw, DrawAppend, WordsTurned, FrameHeadFault, FrameReadHead, FrameApart.
-/
import Derived.WalkSpells
import Derived.WalkMore
import Derived.Laws.AppendOwn
import Derived.Test.YtpggcpnjcalfaaaB11
import Derived.Test.YtpggcpnjcalfaaaB03
import Derived.Test.YtpggcpnjcalfaaaB01
import Derived.OrdersIn
import Derived.RangeFuncNested
import Derived.Deep.AppendLies
import Derived.Test.YtpggcpnjcalfaaaProg
import Derived.Test.YtpggcpnjcalfaaaB10
import Derived.Test.YtpggcpnjcalfaaaB07
import Derived.Test.YtpggcpnjcalfaaaB02
import Derived.BigRegion
import Derived.Deep.QuietTactic
import Derived.BigQuiet
/-
  What the method args of the package code's reader answers.
-/
namespace Go.Proofs.Ytpggcpnjcalfaaa
open Go.RowKit
set_option linter.unusedVariables false
set_option linter.unusedSimpArgs false
set_option maxRecDepth 10000

theorem flat_arg : ∀ (l : List ArgT) (k j : Nat), k < l.length → j < 3 → (l.flatMap argC)[k * 3 + j]? = (argC (nthA l k))[j]?
  | x :: l, 0, j, _, hj => by
    rw [List.flatMap_cons, Nat.zero_mul, Nat.zero_add, List.getElem?_append_left (by simp [argC]; omega)]; rfl
  | x :: l, k + 1, j, hk, hj => by
    rw [List.flatMap_cons, List.getElem?_append_right (by simp [argC]; omega)]
    have := flat_arg l k j (by simpa using hk) hj
    rw [show (k + 1) * 3 + j - (argC x).length = k * 3 + j by simp [argC]; omega]
    exact this
theorem flat_len (l : List ArgT) : (l.flatMap argC).length = l.length * 3 := by
  induction l with
  | nil => rfl
  | cons x l ih => rw [List.flatMap_cons, List.length_append, ih]; simp [argC]; omega
theorem flat_push (l : List ArgT) (x : ArgT) : (l ++ [x]).flatMap argC = l.flatMap argC ++ argC x := by simp

/-- An owned row of arguments can be read. -/
theorem argsV_own {w : World} {B T n cap : Nat} {a : Option Addr} {l : List ArgT} (h : w.ownsRow B T 3 (.slice a n cap) n (l.flatMap argC)) (hl : l.length = n) : ArgsV w a l := by
  intro j hj
  rcases h.2 with ⟨hv, hn⟩ | ⟨g, cap', cur, hv, _, hg, _⟩
  · omega
  · cases hv
    have c0 := h.cellAt (j * 3 + 0) (by omega)
    have c1 := h.cellAt (j * 3 + 1) (by omega)
    have c2 := h.cellAt (j * 3 + 2) (by omega)
    rw [flat_arg l j 0 hj (by omega)] at c0
    rw [flat_arg l j 1 hj (by omega)] at c1
    rw [flat_arg l j 2 hj (by omega)] at c2
    exact ⟨g, 0, rfl, (Array.getElem?_eq_some_iff.1 hg).1, by rw [Nat.zero_add]; exact c0, by rw [Nat.zero_add]; exact c1, by rw [Nat.zero_add]; exact c2⟩

theorem argI_kind {c : Int} {zs : List Int} {b : Int} (h : (argI c zs b).2.2 = 0) : c ≠ 0 ∧ (argI c zs b).1.1 = kindI c ∧ 1 ≤ (argI c zs b).2.1 ∧ (argI c zs b).2.1 ≤ zs.length := by
  unfold argI at h ⊢
  by_cases h0 : c = 0 ∨ zs.length = 0
  · rw [if_pos h0] at h; cases h
  · rw [if_neg h0] at h ⊢
    by_cases h3 : kindI c = 3
    · rw [if_pos h3] at h ⊢
      have := textI_range zs
      exact ⟨fun e => h0 (.inl e), h3.symm, this.2.2.1 h, this.2.1⟩
    · rw [if_neg h3] at h ⊢
      split at h
      · cases h
      · rename_i h1
        rw [if_neg h1]
        split at h
        · cases h
        · rename_i h4
          rw [if_neg h4]
          exact ⟨fun e => h0 (.inl e), rfl, by simp, by simp; omega⟩

def lenV : Value → Nat
  | .slice _ n _ => n
  | _ => 0

theorem Rargs.info : (Try.prog.info? 65).map (fun i => (i.zero, i.size, i.bytes)) = some (some (.agg #[.int .u8 0, .int .u32 0, .string ⟨#[]⟩]), 3, 24) := by kernel_rfl

theorem alloc_newAt (w : World) (o : Obj) {n : Nat} (h : w.heap.size = n) : (w.alloc o).heap[n]? = some o := by subst h; exact heap_alloc_new w o
theorem grown_own {w w' : World} {B e size n g : Nat} {v : Value} {xs : List Value} (h : w.ownsRow B e size v n xs) (hg : w.grownBy w' (some g)) (hB : g < B) : w'.ownsRow B e size v n xs := by
  refine ⟨h.1, ?_⟩
  rcases h.2 with hn | ⟨g', cap, cur, rfl, hb, hgg, rest⟩
  · exact .inl hn
  · exact .inr ⟨g', cap, cur, rfl, hb, (hg.block g' (Array.getElem?_eq_some_iff.1 hgg).1 (fun e => by cases e; omega)).trans hgg, rest⟩

set_option maxHeartbeats 2000000 in
theorem rargs_any (w : World) (R : Nat) (o : Int) (f : Frm) (b : Int) (gr ga n cw p : Nat) (zs : List Int) (K : Nat) (h : RdS w R o f b gr ga n cw p zs) (hf : lookF refT o = (f, true)) (hn : n ≤ 65535) (hK : n - p < K) :
    Calls Try.prog 49 #[.pointer (some ⟨R, 0, none⟩)] w fun e w' => w.grownBy w' (some gr) ∧ ∃ a m c, e = .returned (.tuple #[.slice a m c, .int .i64 (argsI f b K (zs.drop p) []).2]) ∧ (argsI f b K (zs.drop p) []).1.length = m ∧
      w'.ownsRow w.heap.size 65 3 (.slice a m c) m ((argsI f b K (zs.drop p) []).1.flatMap argC) := by
  obtain ⟨i0, hi, hz0, hz1, hz2⟩ := info_parts Rargs.info
  have HI : Hid (Try.prog.info? 65 = some i0 ∧ i0.zero = some (.agg #[.int .u8 0, .int .u32 0, .string ⟨#[]⟩]) ∧ i0.size = 3 ∧ i0.bytes = 24) := ⟨hi, hz0, hz1, hz2⟩
  clear hi hz0 hz1 hz2
  have hlt := h.lt
  have hga : 0 < n → ga < w.heap.size := fun hn0 => h.ga hn0
  have HLEN : Hid (zs.length = n) := h.rd.len
  have hL := fun (k : Nat) (hk : k < 140737488351232) w => grammarLetter_any o k w (by omega)
  rw [hf] at hL
  have hLK := fun (k : Nat) => letter_kind o k
  rw [hf] at hLK
  have hWh := fun (a : Option Addr) (m cap : Nat) (l : List ArgT) wx (hB : R < wx.heap.size) (h0 : wx.cell? ⟨R, 0, none⟩ = some (.int .u16 o)) (hv : ArgsV wx a l) (hl : l.length = m) (hm : 24 * m ≤ 140737488351232) => formWhole_any R o a m cap l wx hB h0 hv hl hm
  rw [hf] at hWh
  have HWH : Hid _ := hWh
  obtain ⟨Rr, hRr⟩ : ∃ r, r = argsI f b K (zs.drop p) [] := ⟨_, rfl⟩
  rw [← hRr]
  have HP : Hid (RdS w R o f b gr ga n cw p zs) := h
  clear hf hWh h
  go_enter Try.func49, Try.ntmps49
  go_wp2
  go_loopw [4] (fun v wr => ∃ (acc : List ArgT) (q k : Nat), wr.ownsRow w.heap.size 65 3 v acc.length (acc.flatMap argC) ∧ RdS wr R o f b gr ga n cw q zs ∧ w.grownBy wr (some gr) ∧ acc.length ≤ q ∧ n - q < k ∧ Rr = argsI f b k (zs.drop q) acc ∧
      ∀ i, i < acc.length → letterI f (i : Int) ≠ 0 ∧ (nthA acc i).1 = kindI (letterI f (i : Int))) (fun v _ => n - lenV v)
  case atStart => exact ⟨[], p, K, World.ownsRow_nil _ _ _ _, HP.out, World.grownBy.refl _ _, Nat.zero_le _, hK, hRr, fun i hi => by simp at hi⟩
  case round =>
    obtain ⟨acc, q, k, hown, hS, hg, hal, hqk, hR, hall⟩ := hrel
    clear hRr HP
    have HR : Hid (Rr = argsI f b k (zs.drop q) acc) := hR
    have HALL : Hid (∀ i, i < acc.length → letterI f (i : Int) ≠ 0 ∧ (nthA acc i).1 = kindI (letterI f (i : Int))) := hall
    obtain ⟨a', cap', rfl⟩ : ∃ a cap, u4 = .slice a acc.length cap := by
      rcases hown.2 with ⟨rfl, h0⟩ | ⟨g, cap, cur, rfl, _⟩
      · exact ⟨none, 0, by rw [h0]⟩
      · exact ⟨_, _, rfl⟩
    have hle := hS.rd.le
    have c9 := hS.cells.2.2.2.2
    have hLf := left_any hS.rd
    have hgs := hg.size
    clear hR hall
    go_wp2_with fail
    refine hLf.mono ?_
    rintro e w1 ⟨rfl, dd, hd⟩
    have hb1 : Below wr.heap.size wr w1 := by rw [hd]; exact bel_drewN (Below.refl _ _) dd
    have hS1 := hS.below hb1
    have hown1 := own_below hown hb1
    have hg1 := grown_then hg (hb1.mono hgs)
    have s1 := hb1.size
    clear hLf hd hS hown hg hb1 c9
    by_cases hq : q < n
    · have hq' : (q : Int) < (n : Int) := by omega
      have w0 := hS1.cells.1
      have hdl : (zs.drop q).length ≠ 0 := by rw [List.length_drop, HLEN.out]; omega
      obtain ⟨k, rfl⟩ : ∃ k', k = k' + 1 := ⟨k - 1, by omega⟩
      have hRu := HR.out
      rw [argsI, if_neg hdl] at hRu
      have hkd := hLK acc.length
      have hLl := hL acc.length (by omega)
      have hAr := fun wx (hx : RdS wx R o f b gr ga n cw q zs) => rarg_any wx R o f b gr ga n cw q zs (letterI f (acc.length : Int)) hx hq hkd
      have hkA := argI_kind (c := letterI f (acc.length : Int)) (zs := zs.drop q) (b := b)
      rw [List.length_drop, HLEN.out] at hkA
      have hdd : ∀ m, (zs.drop q).drop m = zs.drop (q + m) := fun m => by rw [List.drop_drop]
      rw [hdd] at hRu
      generalize argI (letterI f (acc.length : Int)) (zs.drop q) b = A at hRu hAr hkA
      have HRU : Hid _ := hRu
      have HKA : Hid _ := hkA
      clear hRu hkA hdd hdl HR hkd hL hLK
      generalize hcc : letterI f (acc.length : Int) = cc at hLl hAr HKA
      have HCC : Hid (letterI f (acc.length : Int) = cc) := hcc
      clear hcc
      go_wp2_with fail
      refine (hLl _).mono ?_
      rintro e w2 ⟨rfl, hb2⟩
      have hS2 := hS1.below hb2
      have hown2 := own_below hown1 hb2
      have hg2 := grown_then hg1 (hb2.mono (by omega))
      have s2 := hb2.size
      have hA2 := hAr w2 hS2
      clear hS1 hown1 hg1 hb2 hAr hLl w0
      go_wp2_with fail
      refine hA2.mono ?_
      rintro e w3 ⟨y, rfl, hg3, hy3⟩
      have hown3 := grown_own hown2 hg3 hlt.2
      have hgw3 : w.grownBy w3 (some gr) := hg2.trans hg3
      have s3 := hg3.size
      clear hA2 hown2 hg2 hS2
      obtain ⟨y1, y2, y3⟩ := y
      unfold argV
      obtain ⟨A1, A2, r⟩ := A
      simp only at hy3
      have hb4 : Below w3.heap.size w3 (w3.alloc (.cells #[.int .u8 y1, .int .u32 y2, .string y3] 65)) := (Below.refl _ _).alloc (Nat.le_refl _) _
      have kY := alloc_new w3 #[.int .u8 y1, .int .u32 y2, .string y3] 65
      have hown4 := own_below hown3 hb4
      have hgw4 := grown_then hgw3 (hb4.mono (by omega))
      by_cases hr : r = 0
      · subst hr
        obtain ⟨hy, hS3⟩ := hy3 rfl
        have hS4 := hS3.below hb4
        obtain ⟨q0, q1, q2, qf⟩ := three_cells kY
        have hRu : Rr = argsI f b k (zs.drop (q + A2.toNat)) (acc ++ [A1]) := by have := HRU.out; simpa using this
        obtain ⟨ka1, ka2, ka3, ka4⟩ := HKA.out rfl
        simp only at ka2 ka3 ka4
        have HRR : Hid _ := hRu
        have HKK : Hid (cc ≠ 0 ∧ A1.1 = kindI cc) := ⟨ka1, ka2⟩
        have HY : Hid ((y1, y2, y3) = A1) := hy
        have HS4 : Hid _ := hS4
        have HG4 : Hid _ := hgw4
        have HO4 : Hid _ := hown4
        have s4 := hb4.size
        clear hRu ka1 ka2 hy hS3 hS4 hgw4 hown4 hown3 hgw3 hy3 HRU HKA hb4 kY hg3
        have hsz4 : (w3.alloc (.cells #[.int .u8 y1, .int .u32 y2, .string y3] 65)).heap.size = w3.heap.size + 1 := by simp
        have N1 : Hid (((w3.alloc (.cells #[.int .u8 y1, .int .u32 y2, .string y3] 65)).alloc (.cells #[.int .u8 y1, .int .u32 y2, .string y3] 65)).ownsRow w.heap.size 65 3 (.slice a' acc.length cap') acc.length (acc.flatMap argC)) := own_below (e := 65) (size := 3) (v := .slice a' acc.length cap') (n := acc.length) (B := w.heap.size) (xs := acc.flatMap argC) HO4.out ((Below.refl _ _).alloc (Nat.le_refl _) _)
        have N2 : Hid (∀ (j : Nat) (u : Value), [Value.int .u8 y1, .int .u32 y2, .string y3][j]? = some u → ((w3.alloc (.cells #[.int .u8 y1, .int .u32 y2, .string y3] 65)).alloc (.cells #[.int .u8 y1, .int .u32 y2, .string y3] 65)).cell? ((⟨w3.heap.size + 1, 0, none⟩ : Addr).add j) = some u) := World.news_of_block (cs := #[.int .u8 y1, .int .u32 y2, .string y3]) (t := 65) (fr := (0, 0)) (alloc_newAt _ _ (by simp))
        have N3 : Hid (∀ u : Value, u ∈ [Value.int .u8 y1, .int .u32 y2, .string y3] → u.oneCell' = true) := by intro u hu; simp at hu; rcases hu with rfl | rfl | rfl <;> rfl
        have N4 : acc.length + 1 ≤ maxLen := by unfold maxLen; omega
        have N5 : (acc.length + 1) * 24 ≤ 140737488355328 := by omega
        have N6 : Hid (w.heap.size ≤ ((w3.alloc (.cells #[.int .u8 y1, .int .u32 y2, .string y3] 65)).alloc (.cells #[.int .u8 y1, .int .u32 y2, .string y3] 65)).heap.size) := by show _ ≤ _; rw [World.size_alloc, World.size_alloc]; omega
        go_wp2_with (at_builtin; refine wpList_append_own _ rfl (.tmp 30) (.tmp 32) 27 rfl w.heap.size 65 i0 (.agg #[.int .u8 0, .int .u32 0, .string ⟨#[]⟩]) 3 24 Try.underlying27 HI.out.1 HI.out.2.1 HI.out.2.2.1 HI.out.2.2.2 rfl (by decide) _ acc.length (acc.flatMap argC) rfl N1.out ⟨w3.heap.size + 1, 0, none⟩ 1 1 [.int .u8 y1, .int .u32 y2, .string y3] rfl rfl N2.out N3.out N4 N5 N6.out ?_)
        intro v5 w5 hown5 hgr5 _
        have hb5 : w.grownBy ((w3.alloc (.cells #[.int .u8 y1, .int .u32 y2, .string y3] 65)).alloc (.cells #[.int .u8 y1, .int .u32 y2, .string y3] 65)) (some gr) := grown_then HG4.out ((Below.refl _ _).alloc (by simp; omega) _)
        have hRow : ∀ g, (Value.slice a' acc.length cap').ownBlock = some g → w.heap.size ≤ g := fun g e => (N1.out.lt g e).1
        have hbel : Below w.heap.size ((w3.alloc (.cells #[.int .u8 y1, .int .u32 y2, .string y3] 65)).alloc (.cells #[.int .u8 y1, .int .u32 y2, .string y3] 65)) w5 := (Below.refl _ _).grown hgr5 N6.out hRow
        have hg6 := grown_then hb5 hbel
        have hS6 := (HS4.out.below ((Below.refl _ _).alloc (Nat.le_refl _) (.cells #[.int .u8 y1, .int .u32 y2, .string y3] 65))).keep hbel hlt.1 hlt.2 hga
        obtain ⟨a6, cap6, rfl⟩ : ∃ a cap, v5 = .slice a (acc.length + 1) cap := by
          rcases hown5.2 with ⟨_, h0⟩ | ⟨g, cap, cur, rfl, _⟩
          · omega
          · exact ⟨_, _, rfl⟩
        have hown6 : w5.ownsRow w.heap.size 65 3 (.slice a6 (acc.length + 1) cap6) (acc ++ [A1]).length ((acc ++ [A1]).flatMap argC) := by
          rw [flat_push, ← HY.out, List.length_append]; exact hown5
        clear hown5 hgr5 hb5 hRow hbel q0 q1 q2 qf N1 N2 N3 N6 HS4 HG4 HO4
        go_wp2
        go_roundw
        case rel =>
          refine ⟨acc ++ [A1], q + A2.toNat, k, hown6, hS6, hg6, by rw [List.length_append, List.length_singleton]; omega, by omega, HRR.out, fun i hi => ?_⟩
          rw [List.length_append, List.length_singleton] at hi
          by_cases hil : i < acc.length
          · rw [nthA_lo _ _ _ hil]; exact HALL.out i hil
          · obtain rfl : i = acc.length := by omega
            rw [nthA_hi, HCC.out]; exact HKK.out
        case measure => simp [lenV]; omega
      · have hRu : Rr = ([], r) := by have := HRU.out; simp [hr] at this; exact this
        subst hRu
        clear hy3 HRU HKA
        go_wp2
        refine bodyPost_ret (v := .tuple #[.slice none 0 0, .int .i64 r]) ?_ rfl ⟨hgw4, none, 0, 0, rfl, rfl, World.ownsRow_nil _ _ _ _⟩
        simp [results, Try.results49, go_sem]
    · obtain rfl : q = n := by omega
      have hdl : (zs.drop q).length = 0 := by rw [List.length_drop, HLEN.out]; omega
      obtain ⟨k, rfl⟩ : ∃ k', k = k' + 1 := ⟨k - 1, by omega⟩
      have hRu := HR.out
      rw [argsI, if_pos hdl] at hRu
      have hV := argsV_own hown1 rfl
      have hfw := fits_whole (f := f) (l := acc) HALL.out
      have hW := HWH.out a' acc.length cap' acc w1 (by omega) hS1.cells.1 hV rfl (by omega)
      rw [hfw] at hW
      clear hfw HR HALL hdl
      go_wp2_with fail
      refine hW.mono ?_
      rintro e w2 ⟨rfl, hb2⟩
      have hown2 := own_below hown1 hb2
      have hg2 := grown_then hg1 (hb2.mono (by omega))
      clear hW hown1 hg1 hb2 hV
      cases hwh : wholeN f acc.length
      · rw [hwh] at hRu
        have hRu' : Rr = ([], 42) := by simpa using hRu
        subst hRu'
        clear hRu
        go_wp2
        refine bodyPost_ret (v := .tuple #[.slice none 0 0, .int .i64 42]) ?_ rfl ⟨hg2, none, 0, 0, rfl, rfl, World.ownsRow_nil _ _ _ _⟩
        simp [results, Try.results49, go_sem]
      · rw [hwh] at hRu
        have hRu' : Rr = (acc, 0) := by simpa using hRu
        subst hRu'
        clear hRu
        go_wp2
        refine bodyPost_ret (v := .tuple #[.slice a' acc.length cap', .int .i64 0]) ?_ rfl ⟨hg2, a', acc.length, cap', rfl, rfl, hown2⟩
        simp [results, Try.results49, go_sem]

end Go.Proofs.Ytpggcpnjcalfaaa

/-
  A row of instructions while it is built, each with arguments in memory of its own.
-/
namespace Go.Proofs.Ytpggcpnjcalfaaa
open Go.RowKit
set_option linter.unusedVariables false

/-- The instructions from the k-th on lie each in memory of its own, from block lo on; the row lies elsewhere. -/
def OwnI (w : World) (lo : Nat) (a : Option Addr) (k : Nat) (rs : List InstT) : Prop :=
  ∀ j, k ≤ j → j < rs.length → ∃ b off aj cj nj, a = some ⟨b, off, none⟩ ∧ lo ≤ b ∧ b < w.heap.size ∧ w.cell? ⟨b, off + j * 4, none⟩ = some (.int .u16 (nthI rs j).1) ∧ w.cell? ⟨b, off + j * 4 + 1, none⟩ = some (.int .u32 (nthI rs j).2.1) ∧ w.cell? ⟨b, off + j * 4 + 2, none⟩ = some (.int .u32 (nthI rs j).2.2.1) ∧ w.cell? ⟨b, off + j * 4 + 3, none⟩ = some (.slice aj nj cj) ∧ (nthI rs j).2.2.2.length = nj ∧
    w.ownsRow lo 65 3 (.slice aj nj cj) nj ((nthI rs j).2.2.2.flatMap argC) ∧ Value.ownBlock (.slice aj nj cj) ≠ some b ∧
    ∀ i, k ≤ i → i < rs.length → i ≠ j → ∀ ai ci ni g, w.cell? ⟨b, off + i * 4 + 3, none⟩ = some (.slice ai ni ci) → Value.ownBlock (.slice ai ni ci) = some g → Value.ownBlock (.slice aj nj cj) ≠ some g

theorem ownI_nil {w : World} {lo k : Nat} {a : Option Addr} : OwnI w lo a k [] := fun j _ hj => by simp at hj

/-- What is written in one instruction's arguments leaves the later ones. -/
theorem OwnI.next {w w' : World} {lo k b off : Nat} {a : Option Addr} {rs : List InstT} {ak : Option Addr} {nk ck : Nat} (h : OwnI w lo a k rs) (ha : a = some ⟨b, off, none⟩) (hk : k < rs.length) (hc : w.cell? ⟨b, off + k * 4 + 3, none⟩ = some (.slice ak nk ck)) (hg : w.grownBy w' (Value.ownBlock (.slice ak nk ck))) : OwnI w' lo a (k + 1) rs := by
  obtain ⟨b0, off0, ak0, ck0, nk0, e0, _, _, _, _, _, hc0, _, _, hnb, _⟩ := h k (Nat.le_refl _) hk
  rw [ha] at e0
  simp at e0
  obtain ⟨rfl, rfl⟩ := e0
  rw [hc] at hc0
  simp at hc0
  obtain ⟨rfl, rfl, rfl⟩ := hc0
  have cell : ∀ o, w'.cell? ⟨b, o, none⟩ = w.cell? ⟨b, o, none⟩ := fun o => World.cell?_of_block (hg.block b (World.block_lt_of_cell? _ _ hc) (fun e => hnb e.symm))
  intro j hj hjl
  obtain ⟨b1, off1, aj, cj, nj, e1, hlo1, hb1, c1, d1, d2, c2, c3, c4, c5, c6⟩ := h j (by omega) hjl
  rw [ha] at e1
  simp at e1
  obtain ⟨rfl, rfl⟩ := e1
  refine ⟨b, off, aj, cj, nj, ha, hlo1, Nat.lt_of_lt_of_le hb1 hg.size, (cell _).trans c1, (cell _).trans d1, (cell _).trans d2, (cell _).trans c2, c3, own_grown c4 hg (fun g e => c6 k (Nat.le_refl _) hk (by omega) ak ck nk g hc e), c5, ?_⟩
  intro i hi hil hij ai ci ni g hci
  rw [cell] at hci
  exact c6 i (by omega) hil hij ai ci ni g hci

/-- What is written elsewhere leaves them all. -/
theorem OwnI.kept {w w' : World} {lo lo' k : Nat} {a : Option Addr} {rs : List InstT} {ob : Option Nat} (h : OwnI w lo a k rs) (hg : w.grownBy w' ob) (hob : ∀ g, ob = some g → g < lo) (hlo : lo' ≤ lo) : OwnI w' lo' a k rs := by
  intro j hj hjl
  obtain ⟨b, off, aj, cj, nj, e1, hlo1, hb1, c1, d1, d2, c2, c3, c4, c5, c6⟩ := h j hj hjl
  have hne : some b ≠ ob := fun e => by have := hob b e.symm; omega
  have cell : ∀ o, w'.cell? ⟨b, o, none⟩ = w.cell? ⟨b, o, none⟩ := fun o => World.cell?_of_block (hg.block b hb1 hne)
  have c4' := own_grown c4 hg (fun g e e2 => by have := (c4.lt g e2).1; have := hob g e; omega)
  refine ⟨b, off, aj, cj, nj, e1, Nat.le_trans hlo hlo1, Nat.lt_of_lt_of_le hb1 hg.size, (cell _).trans c1, (cell _).trans d1, (cell _).trans d2, (cell _).trans c2, c3, ⟨c4'.1, ?_⟩, c5, fun i hi hil hij ai ci ni g hci => by rw [cell] at hci; exact c6 i hi hil hij ai ci ni g hci⟩
  rcases c4'.2 with h0 | ⟨g, cap, cur, e, hb, rest⟩
  · exact .inl h0
  · exact .inr ⟨g, cap, cur, e, Nat.le_trans hlo hb, rest⟩
theorem OwnI.below {w w' : World} {lo k : Nat} {a : Option Addr} {rs : List InstT} (h : OwnI w lo a k rs) (hb : Below w.heap.size w w') : OwnI w' lo a k rs :=
  h.kept (ob := none) ⟨hb.os, hb.tape, hb.output, hb.size, fun k hk _ => hb.block k hk⟩ (fun g e => by cases e) (Nat.le_refl _)

theorem OwnI.view {w : World} {lo : Nat} {a : Option Addr} {rs : List InstT} (h : OwnI w lo a 0 rs) : InstsV w a rs := by
  intro j hj
  obtain ⟨b, off, aj, cj, nj, e, _, hb, c1, d1, d2, c2, c3, c4, _⟩ := h j (Nat.zero_le _) hj
  refine ⟨b, off, aj, cj, nj, e, hb, c1, d1, d2, c2, c3, argsV_own c4 c3, ?_⟩
  rcases c4.2 with ⟨e1, e2⟩ | ⟨g, c', cur, e1, _, _, e4, _⟩
  · omega
  · cases e1; exact e4

structure RowI (w : World) (lo : Nat) (ob : Option Nat) (rs : List InstT) (cs : List Value) : Prop where
  len : cs.length = rs.length * 4
  each : ∀ j, j < rs.length → ∃ aj cj nj, cs[j * 4]? = some (.int .u16 (nthI rs j).1) ∧ cs[j * 4 + 1]? = some (.int .u32 (nthI rs j).2.1) ∧ cs[j * 4 + 2]? = some (.int .u32 (nthI rs j).2.2.1) ∧ cs[j * 4 + 3]? = some (.slice aj nj cj) ∧ (nthI rs j).2.2.2.length = nj ∧
    w.ownsRow lo 65 3 (.slice aj nj cj) nj ((nthI rs j).2.2.2.flatMap argC) ∧ (∀ g, Value.ownBlock (.slice aj nj cj) = some g → ob ≠ some g) ∧
    ∀ i, i < rs.length → i ≠ j → ∀ ai ci ni g, cs[i * 4 + 3]? = some (.slice ai ni ci) → Value.ownBlock (.slice ai ni ci) = some g → Value.ownBlock (.slice aj nj cj) ≠ some g

theorem rowI_nil {w : World} {lo : Nat} {ob : Option Nat} : RowI w lo ob [] [] := ⟨rfl, fun j hj => by simp at hj⟩

theorem RowI.grown {w w' : World} {lo : Nat} {ob : Option Nat} {rs : List InstT} {cs : List Value} {row : Option Nat} (h : RowI w lo ob rs cs) (hg : w.grownBy w' row) (hr : Apartly w lo row) : RowI w' lo ob rs cs := by
  refine ⟨h.len, fun j hj => ?_⟩
  obtain ⟨aj, cj, nj, h1, d1, d2, h2, h3, h4, h5, h6⟩ := h.each j hj
  exact ⟨aj, cj, nj, h1, d1, d2, h2, h3, own_apartly h4 hg hr, h5, h6⟩
theorem RowI.below {w w' : World} {lo : Nat} {ob : Option Nat} {rs : List InstT} {cs : List Value} (h : RowI w lo ob rs cs) (hb : Below w.heap.size w w') : RowI w' lo ob rs cs :=
  h.grown (grown_of_below hb none) (fun g e => by cases e)

/-- An instruction more, whose arguments have been laid since w0. -/
theorem RowI.push {w0 w w' : World} {v : Value} {g' lo : Nat} {rs : List InstT} {cs : List Value} {x : InstT} {a : Option Addr} {n c : Nat}
    (h : RowI w0 lo v.ownBlock rs cs) (hb : Below w0.heap.size w0 w) (hs : w.ownsRow w0.heap.size 65 3 (.slice a n c) n (x.2.2.2.flatMap argC)) (hl : x.2.2.2.length = n) (hv : ∀ b, v.ownBlock = some b → b < w0.heap.size) (hlo : lo ≤ w0.heap.size)
    (hg : w.grownBy w' v.ownBlock) (hat : v.ownBlock = some g' ∨ g' = w.heap.size) : RowI w' lo (some g') (rs ++ [x]) (cs ++ [.int .u16 x.1, .int .u32 x.2.1, .int .u32 x.2.2.1, .slice a n c]) := by
  have hcl := h.len
  have hnew : ∀ g, Value.ownBlock (.slice a n c) = some g → w0.heap.size ≤ g ∧ g < w.heap.size := fun g e => hs.lt g e
  have hold : ∀ i, i < rs.length → ∀ ai ci ni g, cs[i * 4 + 3]? = some (.slice ai ni ci) → Value.ownBlock (.slice ai ni ci) = some g → g < w0.heap.size := fun i hi ai ci ni g hc e => by
    obtain ⟨aj, cj, nj, _, _, _, h2, _, h4, _⟩ := h.each i hi
    rw [hc] at h2
    cases h2
    exact (h4.lt g e).2
  have hown : ∀ {sv : Value} {m : Nat} {xs : List Value} {B : Nat}, w.ownsRow B 65 3 sv m xs → (∀ g, sv.ownBlock = some g → v.ownBlock ≠ some g) → w'.ownsRow B 65 3 sv m xs := fun h1 h2 => own_grown h1 hg (fun g e e2 => h2 g e2 e)
  have hne : ∀ g, g < w.heap.size → v.ownBlock ≠ some g → some g' ≠ some g := fun g h1 h2 e => by
    cases e
    rcases hat with h3 | h3
    · exact h2 h3
    · omega
  refine ⟨by simp [hcl]; omega, fun j hj => ?_⟩
  rw [List.length_append, List.length_singleton] at hj
  by_cases hjl : j < rs.length
  · obtain ⟨aj, cj, nj, h1, d1, d2, h2, h3, h4, h5, h6⟩ := h.each j hjl
    rw [nthI_lo _ _ _ hjl]
    refine ⟨aj, cj, nj, by rw [List.getElem?_append_left (by omega)]; exact h1, by rw [List.getElem?_append_left (by omega)]; exact d1, by rw [List.getElem?_append_left (by omega)]; exact d2, by rw [List.getElem?_append_left (by omega)]; exact h2, h3, hown (own_below h4 hb) h5, fun g e => hne g (by have := (h4.lt g e).2; have := hb.size; omega) (h5 g e), ?_⟩
    intro i hi hij ai ci ni g hci e
    rw [List.length_append, List.length_singleton] at hi
    by_cases hil : i < rs.length
    · rw [List.getElem?_append_left (by omega)] at hci
      exact h6 i hil hij ai ci ni g hci e
    · obtain rfl : i = rs.length := by omega
      rw [List.getElem?_append_right (by omega), show rs.length * 4 + 3 - cs.length = 3 by omega] at hci
      simp at hci
      obtain ⟨rfl, rfl, rfl⟩ := hci
      intro e2
      have h7 := (hnew g e).1
      have h8 := hold j hjl aj cj nj g h2 e2
      omega
  · obtain rfl : j = rs.length := by omega
    rw [nthI_hi]
    refine ⟨a, c, n, ?_, ?_, ?_, ?_, hl, ?_, fun g e => hne g (hnew g e).2 (fun e2 => by have := hv g e2; have := (hnew g e).1; omega), ?_⟩
    · rw [List.getElem?_append_right (by omega), show rs.length * 4 - cs.length = 0 by omega]; rfl
    · rw [List.getElem?_append_right (by omega), show rs.length * 4 + 1 - cs.length = 1 by omega]; rfl
    · rw [List.getElem?_append_right (by omega), show rs.length * 4 + 2 - cs.length = 2 by omega]; rfl
    · rw [List.getElem?_append_right (by omega), show rs.length * 4 + 3 - cs.length = 3 by omega]; rfl
    · refine hown ⟨hs.1, ?_⟩ (fun g e e2 => by have := hv g e2; have := (hnew g e).1; omega)
      rcases hs.2 with h0 | ⟨g, cap, cur, e, hb', rest⟩
      · exact .inl h0
      · exact .inr ⟨g, cap, cur, e, Nat.le_trans hlo hb', rest⟩
    · intro i hi hij ai ci ni g hci e e2
      rw [List.length_append, List.length_singleton] at hi
      have hil : i < rs.length := by omega
      rw [List.getElem?_append_left (by omega)] at hci
      have := hold i hil ai ci ni g hci e
      have := (hnew g e2).1
      omega

/-- The whole row is as 'OwnI' says. -/
theorem RowI.own {w : World} {T n cap lo : Nat} {a : Option Addr} {rs : List InstT} {cs : List Value} (h : RowI w lo (Value.ownBlock (.slice a n cap)) rs cs) (hown : w.ownsRow lo T 4 (.slice a n cap) n cs) (hl : rs.length = n) : OwnI w lo a 0 rs := by
  intro j _ hj
  rcases hown.2 with ⟨_, hn⟩ | ⟨g, cap', cur, hv, hb, hgg, _⟩
  · omega
  · cases hv
    obtain ⟨aj, cj, nj, h1, d1, d2, h2, h3, h4, h5, h6⟩ := h.each j hj
    have hcl := h.len
    have c1 := hown.cellAt (j * 4) (by omega)
    have e1 := hown.cellAt (j * 4 + 1) (by omega)
    have e2 := hown.cellAt (j * 4 + 2) (by omega)
    have c2 := hown.cellAt (j * 4 + 3) (by omega)
    rw [h1] at c1
    rw [d1] at e1
    rw [d2] at e2
    rw [h2] at c2
    refine ⟨g, 0, aj, cj, nj, rfl, hb, (Array.getElem?_eq_some_iff.1 hgg).1, by rw [Nat.zero_add]; exact c1, by rw [Nat.zero_add]; exact e1, by rw [Nat.zero_add]; exact e2, by rw [Nat.zero_add]; exact c2, h3, h4, fun e => h5 g e rfl, ?_⟩
    intro i _ hi hij ai ci ni g2 hci e
    have c3 := hown.cellAt (i * 4 + 3) (by omega)
    rw [Nat.zero_add, c3] at hci
    exact h6 i hi hij ai ci ni g2 hci e

end Go.Proofs.Ytpggcpnjcalfaaa

/-
  A region that draws its order, in a round or out of one: an operation that yields the same in every world of a class that no operation of the region leaves may be taken first.
-/
namespace Go.Proofs.Ytpggcpnjcalfaaa
open Go.RowKit
set_option linter.unusedVariables false

section
variable {F : Fence} {n : Nat} {P : Program} {md : Region.Mode} {ops : Array Oper} {C : World → Prop} {Q : Exit → Act → World → Prop}

/-- As wpAnyIn, and each operation leaves a world of the class. -/
def wpAnyC (F : Fence) (n : Nat) (P : Program) (md : Region.Mode) (ops : Array Oper) (C : World → Prop) (Q : Exit → Act → World → Prop) : Nat → Array Bool → Act → World → Prop
  | 0, listed, a, w => Region.ready md ops listed = [] ∧ Q .normal a w
  | fuel + 1, listed, a, w => (Region.ready md ops listed = [] → Q .normal a w) ∧ ∀ i ∈ Region.ready md ops listed, wpOpIn F n P ops Q i (fun a' w' => C w' ∧ wpAnyC F n P md ops C Q fuel (listed.setIfInBounds i true) a' w') a w

theorem wpAnyC_sound : ∀ (fuel : Nat) (listed : Array Bool) (a : Act) (w : World), wpAnyC F n P md ops C Q fuel listed a w → wpAnyIn F n P md ops Q fuel listed a w
  | 0, _, _, _, h => h
  | fuel + 1, listed, a, w, h => ⟨h.1, fun i hi => wpOpIn_mono (fun a' w' h' => wpAnyC_sound fuel _ a' w' h'.2) (h.2 i hi)⟩

theorem wpAnyC_done {listed : Array Bool} {a : Act} {w : World} (hr : Region.ready md ops listed = []) (h : Q .normal a w) : ∀ fuel, wpAnyC F n P md ops C Q fuel listed a w
  | 0 => ⟨hr, h⟩
  | _ + 1 => ⟨fun _ => h, by rw [hr]; simp⟩

/-- In every world of the class it yields v. -/
def YieldsC (P : Program) (ops : Array Oper) (C : World → Prop) (o : Oper) (v : Value) (a : Act) : Prop :=
  (Region.wanted o (yielded ops a.tmps) = true ∧ ∀ w, C w → (execOp a.eval o).run P w = .ok (.value v) w) ∨ (Region.wanted o (yielded ops a.tmps) = false ∧ v = undef)

theorem YieldsC.op {i : Nat} {o : Oper} {v : Value} {a : Act} (hF : ∀ f, F.fn f) (hnd : ∀ c, o.op ≠ .defer c) (hi : ops[i]? = some o) (hy : YieldsC P ops C o v a) {K : Act → World → Prop} {w : World} (hC : C w) (h : K (a.put o.dst v) w) : wpOpIn F n P ops Q i K a w := by
  unfold wpOpIn
  simp only [hi]
  rcases hy with ⟨hw, hv⟩ | ⟨hw, rfl⟩
  · rw [if_pos hw]
    exact ⟨fun f _ => hF f, by rw [Oper.semAt_eq _ _ _ hnd, hv w hC]; exact h⟩
  · rw [if_neg (by rw [hw]; simp)]
    exact ⟨fun f _ => hF f, h⟩

/-- What another operation does hangs not on what the one has yielded. -/
theorem opIn_put {j : Nat} {oi oj : Oper} {v : Value} (hF : ∀ f, F.fn f) (hnd : ∀ c, oj.op ≠ .defer c) (hj : ops[j]? = some oj) (hap : oi.apart ops oj = true) (hsj : ∀ cs b, oj.op ≠ .select cs b)
    (hQ : ∀ c a w, Q (.panic c) (a.put oi.dst v) w → Q (.panic c) a w) {K : Act → World → Prop} {a : Act} {w : World} (h : wpOpIn F n P ops Q j K (a.put oi.dst v) w) :
    wpOpIn F n P ops Q j (fun a' w' => (∃ ds u, a' = ({ a with defers := ds } : Act).put oj.dst u) ∧ K (a'.put oi.dst v) w') a w := by
  obtain ⟨h1, h2, _⟩ := Oper.apart_spec hap
  unfold wpOpIn at *
  simp only [hj] at *
  rw [wanted_put oj a oi.dst v h1] at h
  have here : ∀ u w', K ((a.put oi.dst v).put oj.dst u) w' → (∃ ds u', a.put oj.dst u = ({ a with defers := ds } : Act).put oj.dst u') ∧ K ((a.put oj.dst u).put oi.dst v) w' := fun u w' hk => ⟨⟨a.defers, u, rfl⟩, by rw [← Act.put_comm a v u h2]; exact hk⟩
  by_cases hw : Region.wanted oj (yielded ops a.tmps) = true
  · rw [if_pos hw] at h ⊢
    obtain ⟨_, h⟩ := h
    refine ⟨fun f _ => hF f, ?_⟩
    rw [Oper.semAt_eq _ _ _ hnd, execOp_put oj hsj a oi.dst v h1] at h
    rw [Oper.semAt_eq _ _ _ hnd]
    generalize (execOp a.eval oj).run P w = r at *
    cases r with
    | ok x w' =>
      cases x <;> simp only [Oper.uponIn] at h ⊢
      case value u => exact here u _ h
      case skip => exact here _ _ h
      case defer d =>
        refine ⟨⟨d :: a.defers, undef, rfl⟩, ?_⟩
        rw [← Act.put_comm _ v undef h2, ← Act.put_defers]
        exact h
      case enter f args =>
        refine ⟨h.1, CallsIn.mono h.2 fun e w'' he => ?_⟩
        cases e with
        | returned u => exact here u _ he
        | panicked c => exact hQ _ _ _ he
        | outgrown => exact he
      case row row args => exact ⟨h.1, RowsIn.mono h.2 fun u w'' he => here u _ he⟩
      case round l f tmps assign body =>
        refine ⟨h.1, RoundIn.mono h.2 fun e w'' he => ?_⟩
        cases e with
        | returned u => exact here u _ he
        | panicked c => exact hQ _ _ _ he
        | outgrown => exact he
    | halt x w' =>
      cases x <;> simp only [Oper.uponIn] at h ⊢
      case panic u => exact hQ _ _ _ h
  · rw [if_neg hw] at h ⊢
    exact ⟨fun f _ => hF f, here _ _ h.2⟩

theorem YieldsC.put {oi oj : Oper} {v u : Value} {a : Act} {ds : List Deferred} (hy : YieldsC P ops C oi v a) (hap : oi.apart ops oj = true) (hsi : ∀ cs b, oi.op ≠ .select cs b) : YieldsC P ops C oi v (({ a with defers := ds } : Act).put oj.dst u) := by
  obtain ⟨_, _, h3⟩ := Oper.apart_spec hap
  have e1 : execOp (({ a with defers := ds } : Act).put oj.dst u).eval oi = execOp a.eval oi := (execOp_put oi hsi { a with defers := ds } oj.dst u h3).trans rfl
  have e2 : Region.wanted oi (yielded ops (({ a with defers := ds } : Act).put oj.dst u).tmps) = Region.wanted oi (yielded ops a.tmps) := (wanted_put oi { a with defers := ds } oj.dst u h3).trans rfl
  unfold YieldsC
  rw [e1, e2]
  exact hy

theorem wpAnyC_first {i : Nat} {oi : Oper} {v : Value} (hF : ∀ f, F.fn f) (hnd : ∀ (j : Nat) (o : Oper), ops[j]? = some o → ∀ c, o.op ≠ .defer c) (hi : ops[i]? = some oi) (hsel : ∀ (j : Nat) (o : Oper) cs b, ops[j]? = some o → o.op ≠ .select cs b)
    (hQ : ∀ c a w, Q (.panic c) (a.put oi.dst v) w → Q (.panic c) a w) : ∀ (fuel : Nat) (listed : Array Bool) (a : Act) (w : World),
      (∀ j oj, ops[j]? = some oj → j ≠ i → listed.getD j true = false → (∀ e ∈ oj.after, Region.binds md e = true → e.on ≠ i) → oi.apart ops oj = true) →
      i ∈ Region.ready md ops listed → YieldsC P ops C oi v a → C w → wpAnyC F n P md ops C Q fuel (listed.setIfInBounds i true) (a.put oi.dst v) w → wpAnyC F n P md ops C Q (fuel + 1) listed a w := by
  intro fuel
  induction fuel with
  | zero =>
    intro listed a w _ hr hy hC H
    refine ⟨fun h => (by rw [h] at hr; cases hr), fun j hj => ?_⟩
    by_cases hji : j = i
    · subst hji; exact hy.op hF (hnd j oi hi) hi hC ⟨hC, H⟩
    · have := ready_mono hj hji
      rw [H.1] at this
      cases this
  | succ fuel ih =>
    intro listed a w hfree hr hy hC H
    refine ⟨fun h => (by rw [h] at hr; cases hr), fun j hj => ?_⟩
    by_cases hji : j = i
    · subst hji; exact hy.op hF (hnd j oi hi) hi hC ⟨hC, H⟩
    · obtain ⟨hjun, oj, hoj, hall⟩ := mem_ready.1 hj
      have hnot : ∀ e ∈ oj.after, Region.binds md e = true → e.on ≠ i := fun e he hb heq => by
        have h1 := hall e he hb
        have h0 := (mem_ready.1 hr).1
        rw [heq] at h1
        rcases Nat.lt_or_ge i listed.size with h' | h'
        · simp [h'] at h0 h1; rw [h0] at h1; cases h1
        · simp [Array.getElem?_eq_none h'] at h1
      have hap := hfree j oj hoj hji hjun hnot
      have h2 := opIn_put hF (hnd j oj hoj) hoj hap (fun cs b => hsel j oj cs b hoj) hQ (H.2 j (ready_mono hj hji))
      refine wpOpIn_mono (fun a' w' h3 => ?_) h2
      obtain ⟨⟨ds, u, rfl⟩, hC', h4⟩ := h3
      refine ⟨hC', ih (listed.setIfInBounds j true) _ w' (fun k ok hk hki hun hno => hfree k ok hk hki ?_ hno) (ready_mono hr (Ne.symm hji)) (hy.put hap (fun cs b => hsel i oi cs b hi)) hC' ?_⟩
      · by_cases hjk : j = k
        · subst hjk; exact hjun
        · rw [getD_set_ne true hjk] at hun; exact hun
      · rw [Array.setIfInBounds_comm _ _ hji]
        exact h4

/-- No operation of it is a defer. -/
def noDefer (ops : Array Oper) : Bool := ops.all fun o => match o.op with | .defer _ => false | _ => true
theorem noDefer_spec (h : noDefer ops = true) (j : Nat) (o : Oper) (hj : ops[j]? = some o) (c : Call) : o.op ≠ .defer c := fun e => by
  obtain ⟨hlt, hk⟩ := Array.getElem?_eq_some_iff.1 hj
  have := (Array.all_eq_true.1 h) j hlt
  rw [hk, e] at this
  cases this

theorem wpAnyC_take {i : Nat} {oi : Oper} {v : Value} {fuel : Nat} {listed : Array Bool} {a : Act} {w : World} (hF : ∀ f, F.fn f) (hnd : noDefer ops = true) (hi : ops[i]? = some oi) (hs : Region.noSelect ops = true) (hf : Region.free md ops listed i = true) (hr : (Region.ready md ops listed).contains i = true)
    (hQ : ∀ c a w, Q (.panic c) (a.put oi.dst v) w → Q (.panic c) a w) (hC : C w) (hy : YieldsC P ops C oi v a) (h : wpAnyC F n P md ops C Q fuel (listed.setIfInBounds i true) (a.put oi.dst v) w) : wpAnyC F n P md ops C Q (fuel + 1) listed a w :=
  wpAnyC_first hF (noDefer_spec hnd) hi (Region.noSelect_spec hs) hQ fuel listed a w (Region.free_spec hi hf) (by simpa using hr) hy hC h

/-- The same, with the temporary named. -/
theorem wpAnyC_takeD {i : Nat} {oi : Oper} (d : Option Tmp) {v : Value} {fuel : Nat} {listed : Array Bool} {a : Act} {w : World} (hF : ∀ f, F.fn f) (hnd : noDefer ops = true) (hi : ops[i]? = some oi) (hd : oi.dst = d) (hs : Region.noSelect ops = true) (hf : Region.free md ops listed i = true) (hr : (Region.ready md ops listed).contains i = true)
    (hQ : ∀ c a w, Q (.panic c) (a.put d v) w → Q (.panic c) a w) (hC : C w) (hy : YieldsC P ops C oi v a) (h : wpAnyC F n P md ops C Q fuel (listed.setIfInBounds i true) (a.put d v) w) : wpAnyC F n P md ops C Q (fuel + 1) listed a w := by
  subst hd
  exact wpAnyC_take hF hnd hi hs hf hr hQ hC hy h

/-- The operations that may come up, one by one. -/
def AllC (F : Fence) (n : Nat) (P : Program) (md : Region.Mode) (ops : Array Oper) (C : World → Prop) (Q : Exit → Act → World → Prop) (fuel : Nat) (listed : Array Bool) (a : Act) (w : World) (rs : List Nat) : Prop :=
  ∀ i ∈ rs, wpOpIn F n P ops Q i (fun a' w' => C w' ∧ wpAnyC F n P md ops C Q fuel (listed.setIfInBounds i true) a' w') a w
theorem AllC.nil {fuel : Nat} {listed : Array Bool} {a : Act} {w : World} : AllC F n P md ops C Q fuel listed a w [] := fun _ h => by cases h
theorem AllC.cons {fuel : Nat} {listed : Array Bool} {a : Act} {w : World} {i : Nat} {o : Oper} {rs : List Nat} (ho : ops[i]? = some o)
    (h : ∀ K' : Act → World → Prop, (∀ a w, C w → wpAnyC F n P md ops C Q fuel (listed.setIfInBounds i true) a w → K' a w) → if Region.wanted o (yielded ops a.tmps) = true then Oper.wpIn F n P o a w K' Q else (∀ f, o.about P w a.eval = some f → F.fn f) ∧ K' (a.put o.dst undef) w)
    (hs : AllC F n P md ops C Q fuel listed a w rs) : AllC F n P md ops C Q fuel listed a w (i :: rs) := fun j hj => by
  rcases List.mem_cons.1 hj with rfl | hj
  · exact wpOpIn_step ho (fun K' hK => h K' (fun a w hC hw => hK a w ⟨hC, hw⟩))
  · exact hs j hj
theorem wpAnyC_ready {rs : List Nat} {fuel : Nat} {listed : Array Bool} {a : Act} {w : World} (hr : Region.ready md ops listed = rs) (hne : rs ≠ []) (h : AllC F n P md ops C Q fuel listed a w rs) : wpAnyC F n P md ops C Q (fuel + 1) listed a w :=
  ⟨fun h0 => absurd (hr ▸ h0) hne, hr ▸ h⟩

end

end Go.Proofs.Ytpggcpnjcalfaaa

/-
  An append within a region that draws its order, in or out of a round.
-/
namespace Go.Proofs.Ytpggcpnjcalfaaa
open Go.RowKit
set_option linter.unusedVariables false

/-- A piece of code that goes on. -/
theorem wpIn_normal {F : Fence} {n : Nat} {P : Program} {c : Code} {Q : Exit → Act → World → Prop} {a : Act} {w : World} (h : c.wpIn F n P (fun e a w => e = .normal ∧ Q .normal a w) a w) : c.wpIn F n P Q a w :=
  Code.wpIn_mono (fun e a w h => by obtain ⟨rfl, h⟩ := h; exact h) h

theorem stepAny_append {P : Program} (w : World) {F : Fence} (hF : ∀ f, F.fn f) {o : Oper} {ops : Array Oper} {a : Act} {K : Act → World → Prop} {Q : Exit → Act → World → Prop} (hgd : o.guard = none) (s x : Operand) (t : TypeId)
    (ho : o.op = .call { callee := .builtin .append, args := #[s, x], argTypes := #[t, t] }) (base : Nat) (e : TypeId) (i : TypeInfo) (z : Value) (size bytes : Nat) (ht : P.underlying t = some (.slice e)) (hi : P.info? e = some i) (hz : i.zero = some z)
    (hsize : i.size = size) (hby : i.bytes = bytes) (hzs : z.cells.size = size) (hsz : 0 < size) (v : Value) (n : Nat) (xs : List Value) (hs : a.eval s = v) (hown : w.ownsRow base e size v n xs)
    (ad : Addr) (m c : Nat) (news : List Value) (hx : a.eval x = .slice (some ad) m c) (hl : news.length = m * size) (hnews : ∀ j u, news[j]? = some u → w.cell? (ad.add j) = some u) (h1 : ∀ u ∈ news, u.oneCell' = true)
    (hm : 0 < m) (h63 : n + m ≤ maxLen) (hbytes : (n + m) * bytes ≤ 140737488355328) (hbase : base ≤ w.heap.size)
    (h : ∀ g cap w', w'.ownsRow base e size (.slice (some ⟨g, 0, none⟩) (n + m) cap) (n + m) (xs ++ news) → w.grownBy w' v.ownBlock → K (a.put o.dst (.slice (some ⟨g, 0, none⟩) (n + m) cap)) w') :
    if Region.wanted o (yielded ops a.tmps) = true then Oper.wpIn F 0 P o a w K Q else (∀ f, o.about P w a.eval = some f → F.fn f) ∧ K (a.put o.dst undef) w := by
  obtain ⟨v', w', hr, h2, h3, _⟩ := run_append_own (P := P) w base t o.type e i z size bytes ht hi hz hsize hby hzs hsz v n xs hown ad m c news hl hnews h1 h63 hbytes hbase
  obtain ⟨g, cap', rfl⟩ : ∃ g cap', v' = .slice (some ⟨g, 0, none⟩) (n + m) cap' := by
    rcases h2.2 with ⟨_, h0⟩ | ⟨g, cap', cur, e', _⟩
    · omega
    · exact ⟨g, cap', e'⟩
  rw [if_pos (by simp [Region.wanted, hgd])]
  refine ⟨fun f _ => hF f, ?_⟩
  rw [Oper.semAt_eq _ _ _ (fun c hc => by rw [ho] at hc; cases hc)]
  unfold execOp
  simp only [ho, resolve, invoke, builtin, Sem.run_bind, Sem.run_pure, Result.andThen_ok, List.map_toArray, List.map_cons, List.map_nil, hs, hx, hr]
  exact h g cap' w' h2 h3

end Go.Proofs.Ytpggcpnjcalfaaa

/-
  What Turned of the words package returns, for every word: its bytes the other way round.
-/
namespace Go.Proofs.Ytpggcpnjcalfaaa
open Go.RowKit
set_option maxRecDepth 10000

theorem turned_any (x : Int) (w : World) (hx : 0 ≤ x) (hx2 : x < 4294967296) :
    Calls Try.prog 86 #[.int .u32 x] w fun e w' => e = .returned (.int .u32 (turnI x)) ∧ w = w' := by
  have a0 := byt_lo x 0
  have b0 := byt_hi x 0
  have a1 := byt_lo x 1
  have b1 := byt_hi x 1
  have a2 := byt_lo x 2
  have b2 := byt_hi x 2
  have a3 := byt_lo x 3
  have b3 := byt_hi x 3
  go_enter Try.func86, Try.ntmps86
  go_wp2
  refine wp_loop_rounds 5 ?_
  rw [rounds_succ]
  go_wp2_with (first | (go_at_call 61; refine (byteAt_any _ _ _ hx hx2 (by omega) (by omega)).mono ?_; rintro e w' ⟨rfl, rfl⟩) | (go_at_call 51; refine (atPlace_any _ _ _ (by assumption) (by assumption) (by omega) (by omega)).mono ?_; rintro e w' ⟨rfl, rfl⟩))
  rw [rounds_succ]
  go_wp2_with (first | (go_at_call 61; refine (byteAt_any _ _ _ hx hx2 (by omega) (by omega)).mono ?_; rintro e w' ⟨rfl, rfl⟩) | (go_at_call 51; refine (atPlace_any _ _ _ (by assumption) (by assumption) (by omega) (by omega)).mono ?_; rintro e w' ⟨rfl, rfl⟩))
  rw [rounds_succ]
  go_wp2_with (first | (go_at_call 61; refine (byteAt_any _ _ _ hx hx2 (by omega) (by omega)).mono ?_; rintro e w' ⟨rfl, rfl⟩) | (go_at_call 51; refine (atPlace_any _ _ _ (by assumption) (by assumption) (by omega) (by omega)).mono ?_; rintro e w' ⟨rfl, rfl⟩))
  rw [rounds_succ]
  go_wp2_with (first | (go_at_call 61; refine (byteAt_any _ _ _ hx hx2 (by omega) (by omega)).mono ?_; rintro e w' ⟨rfl, rfl⟩) | (go_at_call 51; refine (atPlace_any _ _ _ (by assumption) (by assumption) (by omega) (by omega)).mono ?_; rintro e w' ⟨rfl, rfl⟩))
  rw [rounds_succ]
  go_wp2
  go_ret
  exact ⟨ret_int (or_four_high _ _ _ _ a0 b0 a1 b1 a2 b2 a3 b3), rfl⟩

end Go.Proofs.Ytpggcpnjcalfaaa

/-
  What headFault of frame returns: what is wrong with a word of the head.
-/
namespace Go.Proofs.Ytpggcpnjcalfaaa
open Go.RowKit
set_option maxRecDepth 10000

theorem turned_magic : turnI 119734787 = 50471687 := by decide

set_option maxHeartbeats 1000000 in
theorem headFault_any (k : Nat) (x : Int) (w : World) (hk : k < 5) (hx0 : 0 ≤ x) (hx1 : x < 4294967296) :
    Calls Try.prog 76 #[.int .i64 k, .int .u32 x] w fun e w' => e = .returned (.int .i64 (wrongE k x)) ∧ w = w' := by
  have hT := fun w => turned_any 119734787 w (by omega) (by omega)
  rw [turned_magic] at hT
  have hM := fun w => mayBeBound_any x w hx0 hx1
  rcases (show k = 0 ∨ k = 1 ∨ k = 2 ∨ k = 3 ∨ k = 4 by omega) with rfl | rfl | rfl | rfl | rfl
  · clear hM
    by_cases h1 : x = 50471687
    · have HE : Hid (wrongE 0 x = 21) := by show _ = _; simp [wrongE, h1]
      have b1 : (x == 50471687) = true := by simpa using h1
      clear h1
      go_enter Try.func76, Try.ntmps76
      go_wp2_with (go_at_call 86; refine (hT _).mono ?_; rintro e w' ⟨rfl, rfl⟩)
      go_ret
      exact ⟨ret_int HE.out.symm, rfl⟩
    · have b1 : (x == 50471687) = false := by simpa using h1
      by_cases h2 : x = 119734787
      · have HE : Hid (wrongE 0 x = 0) := by show _ = _; simp [wrongE, h2]
        have b2 : (x == 119734787) = true := by simpa using h2
        clear h1 h2
        go_enter Try.func76, Try.ntmps76
        go_wp2_with (go_at_call 86; refine (hT _).mono ?_; rintro e w' ⟨rfl, rfl⟩)
        go_ret
        exact ⟨ret_int HE.out.symm, rfl⟩
      · have HE : Hid (wrongE 0 x = 20) := by show _ = _; simp [wrongE, h1, h2]
        have b2 : (x == 119734787) = false := by simpa using h2
        clear h1 h2
        go_enter Try.func76, Try.ntmps76
        go_wp2_with (go_at_call 86; refine (hT _).mono ?_; rintro e w' ⟨rfl, rfl⟩)
        go_ret
        exact ⟨ret_int HE.out.symm, rfl⟩
  · clear hM hT
    by_cases h1 : x = 65536
    · have HE : Hid (wrongE 1 x = 0) := by show _ = _; simp [wrongE, h1]
      have b1 : (x == 65536) = true := by simpa using h1
      clear h1
      go_enter Try.func76, Try.ntmps76
      go_wp2
      go_ret
      exact ⟨ret_int HE.out.symm, rfl⟩
    · have HE : Hid (wrongE 1 x = 22) := by show _ = _; simp [wrongE, h1]
      have b1 : (x == 65536) = false := by simpa using h1
      clear h1
      go_enter Try.func76, Try.ntmps76
      go_wp2
      go_ret
      exact ⟨ret_int HE.out.symm, rfl⟩
  · clear hM hT
    go_enter Try.func76, Try.ntmps76
    go_wp2
    go_ret
    exact ⟨rfl, rfl⟩
  · clear hT
    by_cases h1 : x = 0 ∨ 65536 < x
    · have HE : Hid (wrongE 3 x = 24) := by show _ = _; rcases h1 with h1 | h1 <;> simp [wrongE, h1]
      have e1 : (!(decide (x = 0) || decide (65536 < x))) = false := by rcases h1 with h1 | h1 <;> simp [h1]
      rw [e1] at hM
      clear h1 e1
      go_enter Try.func76, Try.ntmps76
      go_wp2_with (go_at_call 58; refine (hM _).mono ?_; rintro e w' ⟨rfl, rfl⟩)
      go_ret
      exact ⟨ret_int HE.out.symm, rfl⟩
    · have HE : Hid (wrongE 3 x = 0) := by show _ = _; simp [wrongE, show ¬ x = 0 from fun h => h1 (.inl h), show ¬ 65536 < x from fun h => h1 (.inr h)]
      have e1 : (!(decide (x = 0) || decide (65536 < x))) = true := by simp [show ¬ x = 0 from fun h => h1 (.inl h), show ¬ 65536 < x from fun h => h1 (.inr h)]
      rw [e1] at hM
      clear h1 e1
      go_enter Try.func76, Try.ntmps76
      go_wp2_with (go_at_call 58; refine (hM _).mono ?_; rintro e w' ⟨rfl, rfl⟩)
      go_ret
      exact ⟨ret_int HE.out.symm, rfl⟩
  · clear hM hT
    by_cases h1 : x = 0
    · have HE : Hid (wrongE 4 x = 0) := by show _ = _; simp [wrongE, h1]
      have b1 : (x == 0) = true := by simpa using h1
      clear h1
      go_enter Try.func76, Try.ntmps76
      go_wp2
      go_ret
      exact ⟨ret_int HE.out.symm, rfl⟩
    · have HE : Hid (wrongE 4 x = 23) := by show _ = _; simp [wrongE, h1]
      have b1 : (x == 0) = false := by simpa using h1
      clear h1
      go_enter Try.func76, Try.ntmps76
      go_wp2
      go_ret
      exact ⟨ret_int HE.out.symm, rfl⟩

end Go.Proofs.Ytpggcpnjcalfaaa

/-
  What readHead of frame returns: the first word of the head that lacks or is wrong, or the head.
-/
namespace Go.Proofs.Ytpggcpnjcalfaaa
open Go.RowKit
set_option maxRecDepth 10000

/-- What the head says, where nothing is wrong with it. -/
def headAt (zs : List Int) (i : Nat) : Int := if (headE zs 0).1 = 0 then nth zs i else 0

theorem headE_any (zs : List Int) : headE zs 0 = (0, 0) ∨ (headE zs 0).1 ≠ 0 := by
  have key : ∀ f k, headF zs f k = (0, 0) ∨ (headF zs f k).1 ≠ 0 := by
    intro f
    induction f with
    | zero => intro k; exact .inl rfl
    | succ f ih =>
      intro k
      rw [headF]
      split
      · split
        · exact .inr (by simp)
        · split
          · next h => exact .inr h
          · exact ih (k + 1)
      · exact .inl rfl
  exact key _ _

set_option maxHeartbeats 1000000 in
theorem readHead_any (a : Option Addr) (n cap : Nat) (zs : List Int) (w : World) (ha : View .u32 w a zs) (hl : zs.length = n) (hw : Within 4294967296 zs) (hn : n ≤ 1048576) :
    Calls Try.prog 52 #[.slice a n cap] w fun e w' => e = .returned (.tuple #[.agg #[.int .u32 (headAt zs 2), .int .u32 (headAt zs 3)], .agg #[.int .i64 (headE zs 0).1, .int .i64 (headE zs 0).2]]) ∧ Below w.heap.size w w' := by
  have HL : Hid (zs.length = n) := hl
  have hav := ha.below (((Below.refl _ w).alloc (Nat.le_refl _) (.cells #[.int .u32 0, .int .u32 0] 82)).alloc (by simp) (.cells #[.int .i64 0, .int .i64 0] 47))
  clear hl ha
  go_enter Try.func52, Try.ntmps52
  go_wp2
  go_loop [6] (fun i => ∃ k : Nat, k ≤ 5 ∧ k ≤ n ∧ i = .int .i64 k ∧ headE zs 0 = headE zs k) (fun i => 5 - (intOf i).toNat)
  case atStart => exact ⟨0, by omega, by omega, rfl, rfl⟩
  case round =>
    obtain ⟨k, hk, hkn, rfl, hke⟩ := hrel
    have HK : Hid (headE zs 0 = headE zs k) := hke
    clear hke
    by_cases hk5 : k < 5
    · have HS : Hid (headE zs k = if n ≤ k then (14, k) else if wrongE k (nth zs k) ≠ 0 then (wrongE k (nth zs k), k) else headE zs (k + 1)) := by
        have := headE_step zs k hk5
        rw [HL.out] at this
        exact this
      by_cases hlt : k < n
      · obtain ⟨b, off, rfl, _, hc⟩ := hav k (by rw [HL.out]; exact hlt)
        have hb := hw.at (k := k) (by rw [HL.out]; exact hlt)
        have hW := fun wx => headFault_any k (nth zs k) wx hk5 hb.1 hb.2
        have hki : ((k : Int) == (n : Int)) = false := by simp; omega
        have hki2 : (k : Int) < (n : Int) := by omega
        clear hav hb
        generalize nth zs k = x at hc hW HS
        by_cases hx : wrongE k x = 0
        · have HE2 : Hid (headE zs 0 = headE zs (k + 1)) := by show _ = _; rw [HK.out, HS.out, if_neg (by omega), if_neg (by simp [hx])]
          rw [hx] at hW
          go_wp2_with (go_at_call 76; refine (hW _).mono ?_; rintro e w' ⟨rfl, rfl⟩)
          go_round
          case rel => exact ⟨k + 1, by omega, by omega, by go_num, HE2.out⟩
          case measure => simp [intOf]; omega
        · have HE2 : Hid (headE zs 0 = (wrongE k x, k)) := by show _ = _; rw [HK.out, HS.out, if_neg (by omega), if_pos hx]
          have HA : Hid (∀ i, headAt zs i = 0) := fun i => by unfold headAt; rw [HE2.out, if_neg hx]
          have hxb : (wrongE k x == 0) = false := by simpa using hx
          clear hx
          generalize wrongE k x = er at hW hxb HE2
          go_wp2_with (go_at_call 76; refine (hW _).mono ?_; rintro e w' ⟨rfl, rfl⟩)
          exact bodyPost_ret (v := .tuple #[.agg #[.int .u32 0, .int .u32 0], .agg #[.int .i64 er, .int .i64 k]]) (by simp [results, Try.results52, go_sem]) rfl ⟨by rw [HE2.out, HA.out, HA.out], ((Below.refl _ _).alloc (Nat.le_refl _) _).alloc (by simp) _⟩
      · have HE2 : Hid (headE zs 0 = (14, k)) := by show _ = _; rw [HK.out, HS.out, if_pos (by omega)]
        have HA : Hid (∀ i, headAt zs i = 0) := fun i => by unfold headAt; rw [HE2.out, if_neg (by simp)]
        have hki : ((k : Int) == (n : Int)) = true := by simp; omega
        go_wp2
        exact bodyPost_ret (v := .tuple #[.agg #[.int .u32 0, .int .u32 0], .agg #[.int .i64 14, .int .i64 k]]) (by simp [results, Try.results52, go_sem]) rfl ⟨by rw [HE2.out, HA.out, HA.out], ((Below.refl _ _).alloc (Nat.le_refl _) _).alloc (by simp) _⟩
    · obtain rfl : k = 5 := by omega
      have HE2 : Hid (headE zs 0 = (0, 0)) := by show _ = _; rw [HK.out, headE_end]
      have HA : Hid (∀ i, headAt zs i = nth zs i) := fun i => by unfold headAt; rw [HE2.out, if_pos rfl]
      obtain ⟨b, off, rfl, _, hc2⟩ := hav 2 (by rw [HL.out]; omega)
      obtain ⟨b', off', e', _, hc3⟩ := hav 3 (by rw [HL.out]; omega)
      simp at e'
      obtain ⟨rfl, rfl⟩ := e'
      clear hav
      have h2n : (2 : Int) < (n : Int) := by omega
      have h3n : (3 : Int) < (n : Int) := by omega
      go_wp2
      go_region
      all_goals go_wp2
      all_goals
        refine bodyPost_ret (v := .tuple #[.agg #[.int .u32 (nth zs 2), .int .u32 (nth zs 3)], .agg #[.int .i64 0, .int .i64 0]]) (by simp [results, Try.results52, go_sem]) rfl ⟨?_, ?_⟩
        · rw [HE2.out, HA.out, HA.out]; rfl
        · first
            | exact ((Below.refl _ _).alloc (Nat.le_refl _) _).alloc (by simp) _
            | exact (((Below.refl _ _).alloc (Nat.le_refl _) _).alloc (by simp) _).drew

end Go.Proofs.Ytpggcpnjcalfaaa

/-
  What apart of frame returns: the instruction with words in new memory.
-/
namespace Go.Proofs.Ytpggcpnjcalfaaa
open Go.RowKit
set_option maxRecDepth 10000

set_option maxHeartbeats 1000000 in
theorem apart_any (op : Int) (x : Addr) (n cap : Nat) (ms : List Int) (w : World) (hv : View .u32 w (some x) ms) (hl : ms.length = n) (hn : 4 * n ≤ 140737488351232) :
    Calls Try.prog 54 #[.agg #[.int .u16 op, .slice (some x) n cap]] w fun e w' => ∃ g cx, e = .returned (.agg #[.int .u16 op, .slice (some ⟨g, 0, none⟩) n cx]) ∧
      w'.ownsRow (w.heap.size + 2) 26 1 (.slice (some ⟨g, 0, none⟩) n cx) n (ms.map (Value.int .u32)) ∧ Below w.heap.size w w' := by
  have hB : Below w.heap.size w ((w.alloc (.cells #[.int .u16 op, .slice (some x) n cap] 25)).alloc (.cells #[.int .u16 0, .slice none 0 0] 25)) := ((Below.refl _ w).alloc (Nat.le_refl _) _).alloc (by simp) _
  have hC := fun wx (hb : Below ((w.alloc (.cells #[.int .u16 op, .slice (some x) n cap] 25)).alloc (.cells #[.int .u16 0, .slice none 0 0] 25)).heap.size ((w.alloc (.cells #[.int .u16 op, .slice (some x) n cap] 25)).alloc (.cells #[.int .u16 0, .slice none 0 0] 25)) wx) => clone_some x n cap ms wx ((hv.below hB).below hb) hl hn
  have hr0 : ((w.alloc (.cells #[.int .u16 op, .slice (some x) n cap] 25)).alloc (.cells #[.int .u16 0, .slice none 0 0] 25)).heap[w.heap.size]? = some (.cells #[.int .u16 op, .slice (some x) n cap] 25 (0, 0)) := by
    rw [Below.heap_alloc _ _ _ (by simp)]; exact heap_alloc_new w _
  have hr1 : ((w.alloc (.cells #[.int .u16 op, .slice (some x) n cap] 25)).alloc (.cells #[.int .u16 0, .slice none 0 0] 25)).heap[w.heap.size + 1]? = some (.cells #[.int .u16 0, .slice none 0 0] 25 (0, 0)) := by
    have := heap_alloc_new (w.alloc (.cells #[.int .u16 op, .slice (some x) n cap] 25)) (.cells #[.int .u16 0, .slice none 0 0] 25)
    simpa using this
  clear hv hl
  go_enter Try.func54, Try.ntmps54
  go_wp2
  go_region_with (go_at_call 47; refine (hC _ (by first | exact Below.refl _ _ | exact (Below.refl _ _).drew)).mono ?_; rintro e w' ⟨g, cx, rfl, hown, hbC⟩; obtain ⟨c0, c1, _⟩ := cell_of_two ((hbC.block _ (by simp; omega)).trans hr0); obtain ⟨d0, d1, f1⟩ := cell_of_two ((hbC.block _ (by simp)).trans hr1); have f0 : w'.frozen? ⟨w.heap.size + 1, 0, none⟩ = false := (by simp [World.frozen?, (hbC.block _ (by simp)).trans hr1]))
  all_goals
    have hres := (hbC.block _ (by simp)).trans hr1
    have hfin : ((w'.setCell ⟨w.heap.size + 1, 0, none⟩ (.int .u16 op)).setCell ⟨w.heap.size + 1, 1, none⟩ (.slice (some ⟨g, 0, none⟩) n cx)).heap[w.heap.size + 1]? = some (.cells #[.int .u16 op, .slice (some ⟨g, 0, none⟩) n cx] 25 (0, 0)) := by
      simp only [World.setCell, Array.getElem?_modify, hres]; simp
    obtain ⟨z0, z1, _⟩ := cell_of_two hfin
    have HZ0 : Hid (_ = _) := z0
    have HZ1 : Hid (_ = _) := z1
    have hown1 : w'.ownsRow (w.heap.size + 2) 26 1 (.slice (some ⟨g, 0, none⟩) n cx) n (ms.map (Value.int .u32)) := own_base hown (by simp)
    have hown2 := ownsRow_setCell_below (ownsRow_setCell_below hown1 (a := ⟨w.heap.size + 1, 0, none⟩) (by simp) (.int .u16 op)) (a := ⟨w.heap.size + 1, 1, none⟩) (by simp) (.slice (some ⟨g, 0, none⟩) n cx)
    have hbw : Below w.heap.size w ((w'.setCell ⟨w.heap.size + 1, 0, none⟩ (.int .u16 op)).setCell ⟨w.heap.size + 1, 1, none⟩ (.slice (some ⟨g, 0, none⟩) n cx)) := ((hB.trans ((by first | exact hbC | exact ((Below.refl _ _).drew).trans hbC : Below _ _ w').mono (by simp; omega))).setCell (p := ⟨w.heap.size + 1, 0, none⟩) (by simp) _).setCell (p := ⟨w.heap.size + 1, 1, none⟩) (by simp) _
    clear z0 z1 hfin hres hown hown1 hbC c0 c1
    go_wp2
    exact bodyPost_ret (v := .agg #[.int .u16 op, .slice (some ⟨g, 0, none⟩) n cx]) (by simp [results, Try.results54, go_sem, HZ0.out, HZ1.out]) rfl ⟨g, cx, rfl, by first | exact hown2 | exact own_below hown2 (bel_drewN (Below.refl _ _) 1), by first | exact hbw | exact hbw.drew⟩

end Go.Proofs.Ytpggcpnjcalfaaa
