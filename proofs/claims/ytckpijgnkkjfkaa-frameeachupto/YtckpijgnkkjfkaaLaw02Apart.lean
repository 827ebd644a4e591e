/-
  apart of the laws of layer 2 answers true of instructions each of which lies in memory of its own, and are the wanted ones; what was there ahead of them stays.
-/
import Derived.WalkSpells
import Derived.Deep.QuietTactic
import Derived.BigQuiet
import Derived.Deep.AppendLies
import Derived.Test.YtckpijgnkkjfkaaRdr
import Derived.Test.YtckpijgnkkjfkaaRaws
import Derived.Test.YtckpijgnkkjfkaaLaw02Raws
import Derived.Test.YtckpijgnkkjfkaaKitSpoilWords
namespace Go.Proofs.Ytckpijgnkkjfkaa
open Go.RowKit

theorem Apart.info : (Try.prog.info? 23).map (fun i => (i.zero, i.size, i.bytes)) = some (some (.int .u32 0), 1, 4) := by kernel_rfl

/-- The instructions from the k-th on lie each in memory of its own, from block lo on; the row lies elsewhere. -/
def OwnR (w : World) (lo : Nat) (a : Option Addr) (k : Nat) (rs : List (Int × List Int)) : Prop :=
  ∀ j, k ≤ j → j < rs.length → ∃ b off aj cj nj, a = some ⟨b, off, none⟩ ∧ lo ≤ b ∧ b < w.heap.size ∧ w.cell? ⟨b, off + j * 2, none⟩ = some (.int .u16 (nthR rs j).1) ∧ w.cell? ⟨b, off + j * 2 + 1, none⟩ = some (.slice aj nj cj) ∧ (nthR rs j).2.length = nj ∧
    w.ownsRow lo 23 1 (.slice aj nj cj) nj ((nthR rs j).2.map (Value.int .u32)) ∧ Value.ownBlock (.slice aj nj cj) ≠ some b ∧
    ∀ i, k ≤ i → i < rs.length → i ≠ j → ∀ ai ci ni g, w.cell? ⟨b, off + i * 2 + 1, none⟩ = some (.slice ai ni ci) → Value.ownBlock (.slice ai ni ci) = some g → Value.ownBlock (.slice aj nj cj) ≠ some g

theorem own_grown {w w' : World} {B e size n : Nat} {v : Value} {xs : List Value} {ob : Option Nat} (h : w.ownsRow B e size v n xs) (hg : w.grownBy w' ob) (hne : ∀ g, ob = some g → v.ownBlock ≠ some g) : w'.ownsRow B e size v n xs := by
  refine ⟨h.1, ?_⟩
  rcases h.2 with hn | ⟨g, cap, cur, rfl, hb, hgg, rest⟩
  · exact .inl hn
  · exact .inr ⟨g, cap, cur, rfl, hb, by rw [hg.block g (Array.getElem?_eq_some_iff.1 hgg).1 (fun e => hne g e.symm rfl)]; exact hgg, rest⟩

/-- What is written in one instruction's words leaves the later ones. -/
theorem OwnR.next {w w' : World} {lo k b off : Nat} {a : Option Addr} {rs : List (Int × List Int)} {ak : Option Addr} {nk ck : Nat} (h : OwnR w lo a k rs) (ha : a = some ⟨b, off, none⟩) (hk : k < rs.length) (hc : w.cell? ⟨b, off + k * 2 + 1, none⟩ = some (.slice ak nk ck)) (hg : w.grownBy w' (Value.ownBlock (.slice ak nk ck))) : OwnR w' lo a (k + 1) rs := by
  obtain ⟨b0, off0, ak0, ck0, nk0, e0, _, _, _, hc0, _, _, hnb, _⟩ := h k (Nat.le_refl _) hk
  rw [ha] at e0
  simp at e0
  obtain ⟨rfl, rfl⟩ := e0
  rw [hc] at hc0
  simp at hc0
  obtain ⟨rfl, rfl, rfl⟩ := hc0
  have cell : ∀ o, w'.cell? ⟨b, o, none⟩ = w.cell? ⟨b, o, none⟩ := fun o => World.cell?_of_block (hg.block b (World.block_lt_of_cell? _ _ hc) (fun e => hnb e.symm))
  intro j hj hjl
  obtain ⟨b1, off1, aj, cj, nj, e1, hlo1, hb1, c1, c2, c3, c4, c5, c6⟩ := h j (by omega) hjl
  rw [ha] at e1
  simp at e1
  obtain ⟨rfl, rfl⟩ := e1
  refine ⟨b, off, aj, cj, nj, ha, hlo1, Nat.lt_of_lt_of_le hb1 hg.size, (cell _).trans c1, (cell _).trans c2, c3, own_grown c4 hg (fun g e => c6 k (Nat.le_refl _) hk (by omega) ak ck nk g hc e), c5, ?_⟩
  intro i hi hil hij ai ci ni g hci
  rw [cell] at hci
  exact c6 i (by omega) hil hij ai ci ni g hci

theorem grown_drew (w : World) (q : Nat) (ob : Option Nat) : w.grownBy (w.drewN q) ob := by
  have h := bel_drewN (Below.refl w.heap.size w) q
  exact ⟨h.os, h.tape, h.output, h.size, fun k hk _ => h.block k hk⟩

/-- An append and what is written in its row: nothing but the old row and new blocks. -/
theorem grown_new {w w1 w2 : World} {ob : Option Nat} {g H : Nat} (h1 : w.grownBy w1 ob) (hat : ob = some g ∨ g = H) (hH : w.heap.size = H) (h2 : w1.grownBy w2 (some g)) : w.grownBy w2 ob :=
  ⟨h2.os.trans h1.os, h2.tape.trans h1.tape, h2.output.trans h1.output, Nat.le_trans h1.size h2.size, fun k hk hne =>
    (h2.block k (Nat.lt_of_lt_of_le hk h1.size) (fun e => by
      cases e
      rcases hat with h | h
      · exact hne h.symm
      · omega)).trans (h1.block k hk hne)⟩

/-- What is written elsewhere leaves them all. -/
theorem OwnR.kept {w w' : World} {lo lo' k : Nat} {a : Option Addr} {rs : List (Int × List Int)} {ob : Option Nat} (h : OwnR w lo a k rs) (hg : w.grownBy w' ob) (hob : ∀ g, ob = some g → g < lo) (hlo : lo' ≤ lo) : OwnR w' lo' a k rs := by
  intro j hj hjl
  obtain ⟨b, off, aj, cj, nj, e1, hlo1, hb1, c1, c2, c3, c4, c5, c6⟩ := h j hj hjl
  have hne : some b ≠ ob := fun e => by have := hob b e.symm; omega
  have cell : ∀ o, w'.cell? ⟨b, o, none⟩ = w.cell? ⟨b, o, none⟩ := fun o => World.cell?_of_block (hg.block b hb1 hne)
  have c4' := own_grown c4 hg (fun g e e2 => by have := (c4.lt g e2).1; have := hob g e; omega)
  refine ⟨b, off, aj, cj, nj, e1, Nat.le_trans hlo hlo1, Nat.lt_of_lt_of_le hb1 hg.size, (cell _).trans c1, (cell _).trans c2, c3, ⟨c4'.1, ?_⟩, c5, fun i hi hil hij ai ci ni g hci => by rw [cell] at hci; exact c6 i hi hil hij ai ci ni g hci⟩
  rcases c4'.2 with h0 | ⟨g, cap, cur, e, hb, rest⟩
  · exact .inl h0
  · exact .inr ⟨g, cap, cur, e, Nat.le_trans hlo hb, rest⟩
theorem OwnR.below {w w' : World} {lo k : Nat} {a : Option Addr} {rs : List (Int × List Int)} (h : OwnR w lo a k rs) (hb : Below w.heap.size w w') : OwnR w' lo a k rs :=
  h.kept (ob := none) ⟨hb.os, hb.tape, hb.output, hb.size, fun k hk _ => hb.block k hk⟩ (fun g e => by cases e) (Nat.le_refl _)

theorem OwnR.view {w : World} {lo : Nat} {a : Option Addr} {rs : List (Int × List Int)} (h : OwnR w lo a 0 rs) : RawsV w a rs := by
  intro j hj
  obtain ⟨b, off, aj, cj, nj, e, _, hb, c1, c2, c3, c4, _⟩ := h j (Nat.zero_le _) hj
  refine ⟨b, off, aj, cj, nj, e, hb, c1, c2, c3, View.ofOwn c4 c3, ?_⟩
  rcases c4.2 with ⟨e1, e2⟩ | ⟨g, c', cur, e1, _, _, e4, _⟩
  · omega
  · cases e1; exact e4

set_option maxRecDepth 100000 in
set_option maxHeartbeats 4000000 in
theorem apart_true (a b : Option Addr) (n ca cb : Nat) (rs : List (Int × List Int)) (w0 w : World) (ha : OwnR w w0.heap.size a 0 rs) (hb : RawsV w0 b rs) (hbw : Below w0.heap.size w0 w) (hok : RawsOk rs) (hl : rs.length = n) (hn : n ≤ 140737488351232) (hsm : ∀ j, j < rs.length → (nthR rs j).2.length ≤ 1048576) :
    Calls Try.prog 15 #[.slice a n ca, .slice b n cb] w fun e w' => e = .returned (.bool true) ∧ Below w0.heap.size w0 w' := by
  obtain ⟨i0, hi, hz0, hz1, hz2⟩ := info_parts Apart.info
  have HL : Hid (rs.length = n) := hl
  clear hl
  go_enter Try.func15, Try.ntmps15
  go_wp2
  go_loopw [5] (fun i wr => ∃ k : Nat, k ≤ n ∧ i = .int .i64 k ∧ OwnR wr w0.heap.size a k rs ∧ Below w0.heap.size w0 wr) (fun i _ => n - (intOf i).toNat)
  case atStart => exact ⟨0, Nat.zero_le _, rfl, ha, hbw⟩
  case round =>
    obtain ⟨k, hk, rfl, hO, hnx⟩ := hrel
    clear ha hbw
    by_cases hlt : k < n
    · obtain ⟨b1, o1, a1, c1, n1, rfl, _, hb1, p1, p2, p3, p4, p5, p6⟩ := hO k (Nat.le_refl _) (by rw [HL.out]; exact hlt)
      obtain ⟨b2, o2, a2, c2, n2, rfl, _, q1, q2, q3, q4, _⟩ := hb.below hnx k (by rw [HL.out]; exact hlt)
      obtain ⟨_, _, _, h4⟩ := hok k (by rw [HL.out]; exact hlt)
      have h5 := hsm k (by rw [HL.out]; exact hlt)
      obtain rfl : n1 = n2 := by omega
      rw [p3] at h4 h5
      have hQ := fun qq => quiet_words (ca := c1) (cb := c2) (View.ofOwn p4 p3) q4 p3 (by omega) qq
      have HO : Hid (OwnR wr w0.heap.size (some ⟨b1, o1, none⟩) k rs) := hO
      have HC : Hid (wr.cell? ⟨b1, o1 + k * 2 + 1, none⟩ = some (.slice a1 n1 c1)) := p2
      have HN : Hid ((nthR rs k).2.length = n1) := p3
      have HNX : Hid (Below w0.heap.size w0 wr) := hnx
      have hlb := p4.lt
      have hs0 := hnx.size
      generalize (nthR rs k).1 = x at p1 q1
      generalize (nthR rs k).2 = zs at p4 HN
      have hki : (k : Int) < (n : Int) := by omega
      have hk0 : (0 : Int) ≤ (k : Int) := by omega
      have hS := fun qq => spoil_own (.slice a1 n1 c1) n1 w0.heap.size zs (wr.drewN qq) (own_below p4 (bel_drewN (Below.refl _ _) qq)) HN.out (by omega)
      clear hb p3 p6 q3 q4 hO hok hsm hnx
      go_wp2
      go_quiet ((go_at_call 13; exact hQ _))
      go_wp2_with fail
      refine (hS _).mono ?_
      rintro e w1 ⟨rfl, hg1, zs1, hl1, hown1⟩
      have hG1 : wr.grownBy w1 (Value.ownBlock (.slice a1 n1 c1)) := (grown_drew wr nq _).trans hg1
      have r2 := (World.cell?_of_block (a := ⟨b1, o1 + k * 2 + 1, none⟩) (hG1.block b1 hb1 (fun e => p5 e.symm))).trans HC.out
      have s1 := hG1.size
      clear hQ hS p1 p2 q1 q2 hg1 p4 p5
      go_wp2_with (at_builtin; refine wpList_append_lies _ rfl (.tmp 49) (.tmp 50) 22 rfl w0.heap.size 23 i0 (.int .u32 0) 1 4 Try.underlying22 hi hz0 hz1 hz2 rfl (by omega) (.slice a1 n1 c1) n1 _ rfl (hown1.alloc _) ⟨w1.heap.size, 0, none⟩ 1 1 [.int .u32 1515870810] rfl rfl (World.news_of_block (cs := #[.int .u32 1515870810]) (t := 23) (fr := (0, 0)) (heap_alloc_new w1 _)) (by simp [Value.oneCell']) (by omega) (by unfold maxLen; omega) (by omega) (by simp; omega) (w1.heap.size + 1) (by simp) ?_)
      intro g2 cap2 w2 hown2 hg2 hat2 hlt2
      have hG2 : wr.grownBy w2 (Value.ownBlock (.slice a1 n1 c1)) := hG1.trans (World.grownBy.trans (b := w1.alloc (.cells #[.int .u32 1515870810] 23)) ⟨rfl, rfl, rfl, by simp, fun k hk _ => Below.heap_alloc w1 _ k hk⟩ hg2)
      have hT := spoil_own (.slice (some ⟨g2, 0, none⟩) (n1 + 1) cap2) (n1 + 1) w0.heap.size (zs1 ++ [1515870810]) w2 (by rw [List.map_append]; exact hown2) (by simp [hl1]) (by omega)
      have HAT : Hid (Value.ownBlock (.slice a1 n1 c1) = some g2 ∨ wr.heap.size ≤ g2) := by
        rcases hat2 with h | h
        · exact .inl h
        · exact .inr (by omega)
      clear hown1 hown2 hg2 hat2 r2
      go_wp2_with fail
      refine hT.mono ?_
      rintro e w3 ⟨rfl, hg3, _⟩
      have hG3 : wr.grownBy w3 (Value.ownBlock (.slice a1 n1 c1)) := by
        rcases HAT.out with h | h
        · exact hG2.trans (by rw [h]; exact hg3)
        · exact ⟨hg3.os.trans hG2.os, hg3.tape.trans hG2.tape, hg3.output.trans hG2.output, Nat.le_trans hG2.size hg3.size, fun k hk hne => (hg3.block k (Nat.lt_of_lt_of_le hk hG2.size) (fun e => by simp [Value.ownBlock] at e; omega)).trans (hG2.block k hk hne)⟩
      clear hT hG1 hG2 hg3
      go_wp2
      go_roundw
      case rel => exact ⟨k + 1, by omega, by go_num, HO.out.next rfl (by rw [HL.out]; exact hlt) HC.out hG3, HNX.out.grown hG3 hs0 (fun g hg => (hlb g hg).1)⟩
      case measure => simp [intOf]; omega
    · go_wp2
      go_ret
      exact ⟨rfl, hnx⟩

end Go.Proofs.Ytckpijgnkkjfkaa
