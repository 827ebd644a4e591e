/-
  What a reader's calls Word, Text and Take answer, and where the reader stands then.
-/
import Derived.WalkSpells
import Derived.Deep.QuietTactic
import Derived.BigQuiet
import Derived.Test.YtmmpejhmmgkfkabWordsReader
namespace Go.Proofs.Ytmmpejhmmgkfkab
open Go.RowKit

set_option maxHeartbeats 1000000 in
/-- A text is asked for, and there is an error. -/
theorem take_text_no {W0 w : World} {gr ga n cw p : Nat} {zs : List Int} (m : Int) (h : Rdr W0 w gr ga n cw p zs) (s : ByteArray) (k er : Int) (her : er ≠ 0)
    (hT : ∀ b cb w2, n - p ≤ cb → View .u32 w2 b (zs.drop p) → Calls Try.prog 7 #[.slice b (n - p : Nat) cb] w2 fun e w' => e = .returned (.tuple #[.string s, .int .i64 k, .int .i64 er]) ∧ Below w2.heap.size w2 w') :
    Calls Try.prog 24 #[.pointer (some ⟨gr, 0, none⟩), .int .i64 1, .int .i64 m] w fun e w' => e = .returned (.tuple #[.slice none 0 0, .string ⟨#[]⟩, .int .i64 er]) ∧ Below w.heap.size w w' := by
  obtain ⟨c0, c1, f1⟩ := cell_of_two h.rd.box
  have hle := h.le
  have hsm := h.small
  have hrm := h.room
  have HLZ : Hid (zs.length = n) := h.len
  obtain ⟨sa, hsa, hsav⟩ : ∃ sa, (if cw = p then some (⟨ga, 0, none⟩ : Addr) else some ⟨ga, p, none⟩) = some sa ∧ Hid (∀ wx, View .u32 wx (some ⟨ga, 0, none⟩) zs → View .u32 wx (some sa) (zs.drop p)) := by
    by_cases e : cw = p
    · refine ⟨⟨ga, 0, none⟩, by rw [if_pos e], fun wx _ => ?_⟩
      rw [List.drop_of_length_le (by rw [HLZ.out]; omega)]
      exact view_nil
    · refine ⟨⟨ga, p, none⟩, by rw [if_neg e], fun wx hv => ?_⟩
      have := View.drop hv p
      rw [Nat.zero_add] at this
      exact this
  have hpn : (p : Int) ≤ (n : Int) := by omega
  have he : (er == 0) = false := by simpa using her
  have H : Hid (Rdr W0 w gr ga n cw p zs) := h
  clear h her
  go_enter Try.func24, Try.ntmps24
  go_wp2
  go_quiet (fail)
  go_wp2_with fail
  refine (hT (some sa) (cw - p) (w.drewN nq) (by omega) (hsav.out _ (H.out.drew nq).words)).mono ?_
  rintro e w1 ⟨rfl, hb1⟩
  go_wp2
  go_ret3
  exact ⟨rfl, (bel_drewN (Below.refl _ w) nq).trans hb1⟩

set_option maxHeartbeats 1000000 in
/-- A text is taken. -/
theorem take_text_yes {W0 w : World} {gr ga n cw p : Nat} {zs : List Int} (m : Int) (h : Rdr W0 w gr ga n cw p zs) (s : ByteArray) (k : Nat) (hk : p + k ≤ n)
    (hT : ∀ b cb w2, n - p ≤ cb → View .u32 w2 b (zs.drop p) → Calls Try.prog 7 #[.slice b (n - p : Nat) cb] w2 fun e w' => e = .returned (.tuple #[.string s, .int .i64 k, .int .i64 0]) ∧ Below w2.heap.size w2 w') :
    Calls Try.prog 24 #[.pointer (some ⟨gr, 0, none⟩), .int .i64 1, .int .i64 m] w fun e w' => ∃ v, e = .returned (.tuple #[v, .string s, .int .i64 0]) ∧ Rdr W0 w' gr ga n cw (p + k) zs ∧ w.grownBy w' (some gr) := by
  obtain ⟨c0, c1, f1⟩ := cell_of_two h.rd.box
  have hle := h.le
  have hsm := h.small
  have hrm := h.room
  have HLZ : Hid (zs.length = n) := h.len
  obtain ⟨sa, hsa, hsav⟩ : ∃ sa, (if cw = p then some (⟨ga, 0, none⟩ : Addr) else some ⟨ga, p, none⟩) = some sa ∧ Hid (∀ wx, View .u32 wx (some ⟨ga, 0, none⟩) zs → View .u32 wx (some sa) (zs.drop p)) := by
    by_cases e : cw = p
    · refine ⟨⟨ga, 0, none⟩, by rw [if_pos e], fun wx _ => ?_⟩
      rw [List.drop_of_length_le (by rw [HLZ.out]; omega)]
      exact view_nil
    · refine ⟨⟨ga, p, none⟩, by rw [if_neg e], fun wx hv => ?_⟩
      have := View.drop hv p
      rw [Nat.zero_add] at this
      exact this
  have hpn : (p : Int) ≤ (n : Int) := by omega
  have hm' : ¬ ((n - p : Nat) : Int) < (k : Int) := by omega
  have hmc : (k : Int) ≤ ((cw - p : Nat) : Int) := by omega
  have H : Hid (Rdr W0 w gr ga n cw p zs) := h
  clear h
  go_enter Try.func24, Try.ntmps24
  go_wp2
  go_quiet (fail)
  go_wp2_with fail
  refine (hT (some sa) (cw - p) (w.drewN nq) (by omega) (hsav.out _ (H.out.drew nq).words)).mono ?_
  rintro e w1 ⟨rfl, hb1⟩
  have HR1 : Hid (Rdr W0 w1 gr ga n cw p zs) := (H.out.drew nq).below hb1
  obtain ⟨d0, d1, g1⟩ := cell_of_two HR1.out.rd.box
  have HB : Hid (Below w.heap.size w w1) := (bel_drewN (Below.refl _ w) nq).trans hb1
  clear hb1 hT
  go_wp2
  go_ret3
  refine ⟨_, rfl, HR1.out.set (p + k) _ (by omega) hk, ?_⟩
  have hb := HB.out
  exact World.grownBy.trans ⟨hb.os, hb.tape, hb.output, hb.size, fun i hi _ => hb.block i hi⟩ (grown_setCell w1 gr 1 _)

/-- Word, where one is left. -/
theorem word_some {W0 w : World} {gr ga n cw p : Nat} {zs : List Int} (h : Rdr W0 w gr ga n cw p zs) (hp : p < n) :
    Calls Try.prog 14 #[.pointer (some ⟨gr, 0, none⟩)] w fun e w' => e = .returned (.tuple #[.int .u32 (nth zs p), .int .i64 0]) ∧ Rdr W0 w' gr ga n cw (p + 1) zs := by
  have hT := take_word (m := 0) h hp
  have hlen := h.len
  clear h
  go_enter Try.func14, Try.ntmps14
  go_wp2_with fail
  refine hT.mono ?_
  rintro e w1 ⟨c, rfl, hR⟩
  obtain ⟨b, off, e1, _, hc⟩ := hR.words p (by rw [hlen]; exact hp)
  simp at e1
  obtain ⟨rfl, rfl⟩ := e1
  rw [Nat.zero_add] at hc
  clear hlen
  go_wp2
  go_ret2
  exact ⟨rfl, hR⟩

/-- Word, where none is left. -/
theorem word_none {W0 w : World} {gr ga n cw : Nat} {zs : List Int} (h : Rdr W0 w gr ga n cw n zs) :
    Calls Try.prog 14 #[.pointer (some ⟨gr, 0, none⟩)] w fun e w' => e = .returned (.tuple #[.int .u32 0, .int .i64 14]) ∧ Rdr W0 w' gr ga n cw n zs := by
  have hT := take_end (m := 0) h
  go_enter Try.func14, Try.ntmps14
  go_wp2_with fail
  refine hT.mono ?_
  rintro e w1 ⟨rfl, q, rfl⟩
  go_wp2
  go_ret2
  exact ⟨rfl, h.drew q⟩

/-- Text. -/
theorem rtext_any {W0 w : World} {gr ga n cw p : Nat} {zs : List Int} (h : Rdr W0 w gr ga n cw p zs) (s : ByteArray) (k er : Int) (hk0 : 0 ≤ k) (hk : k ≤ (n - p : Nat)) (hz : er ≠ 0 → s = ⟨#[]⟩ ∧ k = 0)
    (hT : ∀ b cb w2, n - p ≤ cb → View .u32 w2 b (zs.drop p) → Calls Try.prog 7 #[.slice b (n - p : Nat) cb] w2 fun e w' => e = .returned (.tuple #[.string s, .int .i64 k, .int .i64 er]) ∧ Below w2.heap.size w2 w') :
    Calls Try.prog 16 #[.pointer (some ⟨gr, 0, none⟩)] w fun e w' => e = .returned (.tuple #[.string s, .int .i64 er]) ∧ Rdr W0 w' gr ga n cw (p + k.toNat) zs := by
  have hle := h.le
  by_cases her : er = 0
  · subst her
    obtain ⟨kk, rfl⟩ := Int.eq_ofNat_of_zero_le hk0
    have hA := take_text_yes (m := 0) h s kk (by omega) hT
    rw [Int.toNat_natCast]
    clear hz hT h
    go_enter Try.func16, Try.ntmps16
    go_wp2_with fail
    refine hA.mono ?_
    rintro e w1 ⟨v, rfl, hR, _⟩
    go_wp2
    go_ret2
    exact ⟨rfl, hR⟩
  · obtain ⟨rfl, rfl⟩ := hz her
    have hA := take_text_no (m := 0) h ⟨#[]⟩ 0 er her hT
    have H : Hid (Rdr W0 w gr ga n cw p zs) := h
    clear hz hT h her
    go_enter Try.func16, Try.ntmps16
    go_wp2_with fail
    refine hA.mono ?_
    rintro e w1 ⟨rfl, hb⟩
    go_wp2
    go_ret2
    exact ⟨rfl, H.out.below hb⟩

/-- Take, of fewer than none. -/
theorem rtake_neg {W0 w : World} {gr ga n cw p : Nat} {zs : List Int} (m : Int) (h : Rdr W0 w gr ga n cw p zs) (hm : m < 0) :
    Calls Try.prog 17 #[.pointer (some ⟨gr, 0, none⟩), .int .i64 m] w fun e w' => e = .returned (.tuple #[.slice none 0 0, .int .i64 2]) ∧ Rdr W0 w' gr ga n cw p zs ∧ ∃ q, w' = w.drewN q := by
  have hT := take_neg m h hm
  go_enter Try.func17, Try.ntmps17
  go_wp2_with fail
  refine hT.mono ?_
  rintro e w1 ⟨rfl, q, rfl⟩
  go_wp2_with fail
  refine (clone_nil _).mono ?_
  rintro e w' ⟨rfl, rfl⟩
  go_wp2
  go_ret2
  exact ⟨rfl, h.drew q, q, rfl⟩

/-- Take, of more than are left. -/
theorem rtake_over {W0 w : World} {gr ga n cw p : Nat} {zs : List Int} (m : Int) (h : Rdr W0 w gr ga n cw p zs) (hm : (n : Int) - p < m) :
    Calls Try.prog 17 #[.pointer (some ⟨gr, 0, none⟩), .int .i64 m] w fun e w' => e = .returned (.tuple #[.slice none 0 0, .int .i64 14]) ∧ Rdr W0 w' gr ga n cw p zs ∧ ∃ q, w' = w.drewN q := by
  have hT := take_over m h hm
  go_enter Try.func17, Try.ntmps17
  go_wp2_with fail
  refine hT.mono ?_
  rintro e w1 ⟨rfl, q, rfl⟩
  go_wp2_with fail
  refine (clone_nil _).mono ?_
  rintro e w' ⟨rfl, rfl⟩
  go_wp2
  go_ret2
  exact ⟨rfl, h.drew q, q, rfl⟩

/-- Take, of so many as there are. -/
theorem rtake_some {W0 w : World} {gr ga n cw p m : Nat} {zs : List Int} (h : Rdr W0 w gr ga n cw p zs) (hm : p + m ≤ n) :
    Calls Try.prog 17 #[.pointer (some ⟨gr, 0, none⟩), .int .i64 m] w fun e w' => ∃ g cx, e = .returned (.tuple #[.slice (some ⟨g, 0, none⟩) m cx, .int .i64 0]) ∧ W0.heap.size ≤ g ∧ gr < g ∧ w.heap.size ≤ g ∧ w.grownBy w' (some gr) ∧
      w'.ownsRow W0.heap.size 38 1 (.slice (some ⟨g, 0, none⟩) m cx) m (((zs.drop p).take m).map (Value.int .u32)) ∧ Rdr W0 w' gr ga n cw (p + m) zs := by
  have hT := take_some h hm
  have hlen : ((zs.drop p).take m).length = m := by rw [List.length_take, List.length_drop, h.len]; omega
  have hsm := h.small
  have HLEN : Hid (((zs.drop p).take m).length = m) := hlen
  clear h hlen
  go_enter Try.func17, Try.ntmps17
  go_wp2_with fail
  refine hT.mono ?_
  rintro e w1 ⟨sa, c, rfl, hv, hR, hgw⟩
  have hs2 := hgw.size
  go_wp2_with fail
  refine (clone_some sa m c _ w1 hv HLEN.out (by omega)).mono ?_
  rintro e w2 ⟨g, cx, rfl, hown, hb⟩
  have hs0 := hR.rd.grown.size
  have hs1 := hR.rd.lt
  have hR2 := hR.below hb
  have hg : w1.heap.size ≤ g ∧ w2.ownsRow W0.heap.size 38 1 (.slice (some ⟨g, 0, none⟩) m cx) m (((zs.drop p).take m).map (Value.int .u32)) := by
    rcases hown.2 with ⟨h1, _⟩ | ⟨g', cx', cur, h1, h2, h3⟩
    · cases h1
    · cases h1; exact ⟨h2, hown.1, .inr ⟨g, cx, cur, rfl, by omega, h3⟩⟩
  obtain ⟨hg1, hg2⟩ := hg
  have hgw2 : w.grownBy w2 (some gr) := hgw.trans ⟨hb.os, hb.tape, hb.output, hb.size, fun i hi _ => hb.block i hi⟩
  clear hown hb hv hT hgw
  go_wp2
  go_ret2
  exact ⟨g, cx, rfl, by omega, by omega, by omega, hgw2, hg2, hR2⟩

end Go.Proofs.Ytmmpejhmmgkfkab
