/-
  What digitsOf, plainNumber, number and Number of the layer lex return, for every text; nothing turns.
-/
import Derived.WalkSpells
import Derived.WalkMore
import Derived.Test.YteckmcgihbicfabProg
import Derived.Test.YteckmcgihbicfabLexKinds
namespace Go.Proofs.Yteckmcgihbicfab
open Go.RowKit
set_option maxRecDepth 10000
set_option linter.unusedVariables false
set_option linter.unusedSimpArgs false

theorem str_empty_strI {s : ByteArray} : (strI s).isEmpty = s.toList.isEmpty := by
  rw [ByteArray.toList_eq, strI, List.isEmpty_map]

set_option maxHeartbeats 1000000 in
theorem digitsOf_any (s : ByteArray) (b : Int) (w : World) (hs : s.size ≤ 140737488351232) (hb : b = 10 ∨ b = 16) :
    Calls Try.prog 102 #[.string s, .int .u64 b] w fun e w' => (∃ x : Int, e = .returned (.tuple #[.int .u32 x, .bool (digsB b (strI s))]) ∧ 0 ≤ x ∧ x < 4294967296 ∧ (digsB b (strI s) = true → x = valF b 0 (strI s))) ∧ w = w' := by
  have HLen := strI_len s
  have HF : Hid (∀ k, k < s.size → b ≤ dvI (nth (strI s) k) → digsB b (strI s) = false) := fun k hk h => digs_not (by omega) h
  have HG : Hid (∀ k, 4294967296 ≤ valF b 0 ((strI s).take k) → digsB b (strI s) = false) := fun k h => digs_large (by omega) h
  have HA : Hid (∀ k, k < s.size → allD b ((strI s).take k) = true → dvI (nth (strI s) k) < b → allD b ((strI s).take (k + 1)) = true) := fun k hk h h1 => allD_snoc (by omega) h h1
  have HV : Hid (∀ k, k < s.size → valF b 0 ((strI s).take (k + 1)) = valF b 0 ((strI s).take k) * b + dvI (nth (strI s) k)) := fun k hk => valF_take b _ k (by omega)
  have HW : Hid (∀ k, 0 ≤ valF b 0 ((strI s).take k)) := fun k => valF_lo b _ (by omega)
  have HE : Hid (allD b ((strI s).take s.size) = true → valF b 0 ((strI s).take s.size) < 4294967296 → digsB b (strI s) = !s.toList.isEmpty ∧ valF b 0 ((strI s).take s.size) = valF b 0 (strI s)) := fun h1 h2 => by
    rw [List.take_of_length_le (by omega)] at h1 h2 ⊢
    refine ⟨?_, rfl⟩
    rw [digs_all h1 h2, str_empty_strI]
  clear HLen
  go_enter Try.func102, Try.ntmps102
  go_wp2
  go_loop [6, 11] (fun n i => ∃ k : Nat, k ≤ s.size ∧ i = .int .i64 k ∧ n = .int .u64 (valF b 0 ((strI s).take k)) ∧ allD b ((strI s).take k) = true ∧ valF b 0 ((strI s).take k) < 4294967296) (fun _ i => s.size - (intOf i).toNat)
  case atStart => exact ⟨0, Nat.zero_le _, rfl, rfl, rfl, by simp [valF]⟩
  case round =>
    obtain ⟨k, hk, rfl, rfl, hall, hlt32⟩ := hrel
    have hn0 := HW.out k
    by_cases hlt : k < s.size
    · have hc0 : (0 : Int) ≤ (s[k].toNat : Int) := by omega
      have hc1 : (s[k].toNat : Int) < 256 := by have := s[k].toNat_lt; omega
      have hD := fun wx => digitValue_any (s[k].toNat : Int) wx hc0 hc1
      have d0 := dv_lo (s[k].toNat : Int)
      have d1 := dv_hi (s[k].toNat : Int)
      have eF := HF.out k hlt
      have eG := HG.out (k + 1)
      have eA := HA.out k hlt hall
      have eV := HV.out k hlt
      rw [nth_strI s k hlt] at eF eA eV
      rw [eV] at eG
      have EF : Hid (b ≤ dvI (s[k].toNat : Int) → digsB b (strI s) = false) := eF
      have EG : Hid (4294967296 ≤ valF b 0 ((strI s).take k) * b + dvI (s[k].toNat : Int) → digsB b (strI s) = false) := eG
      have EA : Hid (dvI (s[k].toNat : Int) < b → allD b ((strI s).take (k + 1)) = true) := eA
      have EV : Hid (valF b 0 ((strI s).take (k + 1)) = valF b 0 ((strI s).take k) * b + dvI (s[k].toNat : Int)) := eV
      clear eF eG eA eV hall
      generalize dvI (s[k].toNat : Int) = d at *
      generalize valF b 0 ((strI s).take k) = n at *
      by_cases hge : b ≤ d
      · have HB : Hid (digsB b (strI s) = false) := EF.out hge
        have hdec : decide (b ≤ d) = true := decide_eq_true hge
        go_wp2_with (go_at_call 97; refine (hD _).mono ?_; rintro e w' ⟨rfl, rfl⟩)
        go_ret2
        exact ⟨⟨0, by rw [HB.out]; rfl, by omega, by omega, fun h => by rw [HB.out] at h; cases h⟩, rfl⟩
      · have hdec : decide (b ≤ d) = false := decide_eq_false hge
        by_cases hbig : 4294967296 ≤ n * b + d
        · have HB : Hid (digsB b (strI s) = false) := EG.out hbig
          have hdec2 : decide ((4294967295 : Int) < n * b + d) = true := decide_eq_true (by omega)
          have hw1 : 0 ≤ n * b ∧ n * b < 18446744073709551616 := by rcases hb with rfl | rfl <;> omega
          have hw2 : 0 ≤ n * b + d ∧ n * b + d < 18446744073709551616 := by rcases hb with rfl | rfl <;> omega
          clear hbig
          rcases hb with rfl | rfl <;>
          · go_wp2_with (go_at_call 97; refine (hD _).mono ?_; rintro e w' ⟨rfl, rfl⟩)
            go_ret2
            exact ⟨⟨0, by rw [HB.out]; rfl, by omega, by omega, fun h => by rw [HB.out] at h; cases h⟩, rfl⟩
        · have hdec2 : decide ((4294967295 : Int) < n * b + d) = false := decide_eq_false (by omega)
          have hsm : n * b + d < 4294967296 := by omega
          clear hbig
          rcases hb with rfl | rfl <;>
          · go_wp2_with (go_at_call 97; refine (hD _).mono ?_; rintro e w' ⟨rfl, rfl⟩)
            go_round
            case rel => exact ⟨k + 1, by omega, by go_num, by rw [EV.out], EA.out (by omega), by rw [EV.out]; exact hsm⟩
            case measure => simp [intOf]; omega
    · obtain rfl : k = s.size := by omega
      obtain ⟨e1, e2⟩ := HE.out hall hlt32
      have E2 : Hid (valF b 0 ((strI s).take s.size) = valF b 0 (strI s)) := e2
      clear e2 hall
      generalize valF b 0 ((strI s).take s.size) = n at *
      have E1 : Hid (digsB b (strI s) = !s.toList.isEmpty) := e1
      clear e1
      go_wp2
      go_ret2
      refine ⟨⟨n, ?_, hn0, hlt32, fun _ => E2.out⟩, rfl⟩
      rw [E1.out]; rfl

theorem plainNumber_any (s : ByteArray) (w : World) (hs : s.size ≤ 140737488351232) :
    Calls Try.prog 100 #[.string s] w fun e w' => (∃ x : Int, e = .returned (.tuple #[.int .u32 x, .bool (plainB (strI s))]) ∧ 0 ≤ x ∧ x < 4294967296 ∧ (plainB (strI s) = true → x = valF 10 0 (strI s))) ∧ w = w' := by
  have hD := fun wx => digitsOf_any s 10 wx hs (.inl rfl)
  by_cases h1 : 1 < s.size
  · have h0 := nth_strI s 0 (by omega)
    by_cases hz : (s[0].toNat : Int) = 48
    · have HB : Hid (plainB (strI s) = false) := plain_zero (by rw [strI_len]; exact h1) (by rw [h0]; exact hz)
      have hz' : ((s[0].toNat : Int) == 48) = true := by simpa using hz
      clear h0 hz
      go_enter Try.func100, Try.ntmps100
      go_wp2_with fail
      go_ret2
      exact ⟨⟨0, by rw [HB.out]; rfl, by omega, by omega, fun h => by rw [HB.out] at h; cases h⟩, rfl⟩
    · have HB : Hid (plainB (strI s) = digsB 10 (strI s)) := plain_digs (by rw [h0]; intro h; exact hz h.2)
      have hz' : ((s[0].toNat : Int) == 48) = false := by simpa using hz
      clear h0 hz
      go_enter Try.func100, Try.ntmps100
      go_wp2_with fail
      refine (hD _).mono ?_
      rintro e w' ⟨⟨x, rfl, hx0, hx1, hx⟩, rfl⟩
      go_wp2_with fail
      go_ret2
      exact ⟨⟨x, by rw [HB.out]; rfl, hx0, hx1, fun h => hx (by rw [HB.out] at h; exact h)⟩, rfl⟩
  · have HB : Hid (plainB (strI s) = digsB 10 (strI s)) := plain_digs (by rw [strI_len]; intro h; exact h1 h.1)
    go_enter Try.func100, Try.ntmps100
    go_wp2_with fail
    refine (hD _).mono ?_
    rintro e w' ⟨⟨x, rfl, hx0, hx1, hx⟩, rfl⟩
    go_wp2_with fail
    go_ret2
    exact ⟨⟨x, by rw [HB.out]; rfl, hx0, hx1, fun h => hx (by rw [HB.out] at h; exact h)⟩, rfl⟩

/-- A text begins with another. -/
def pfxB (t s : ByteArray) : Bool := decide (s.size ≤ t.size) && ((t.extract 0 s.size).toList == s.toList)
/-- What is left behind it. -/
def pfxS (t s : ByteArray) : ByteArray := if pfxB t s then t.extract s.size t.size else t

theorem litePfx_any (t s : ByteArray) (w : World) (ht : t.size ≤ 140737488351232) (hs : s.size ≤ 140737488351232) :
    Calls Try.prog 127 #[.string t, .string s] w fun e w' => e = .returned (.bool (pfxB t s)) ∧ w = w' := by
  by_cases h : s.size ≤ t.size
  · have HE : Hid (pfxB t s = ((t.extract 0 s.size).toList == s.toList)) := by show _ = _; unfold pfxB; rw [decide_eq_true h]; rfl
    have h' : decide ((t.size : Int) ≥ (s.size : Int)) = true := decide_eq_true (by omega)
    have hi : (s.size : Int) ≤ (t.size : Int) := by omega
    go_enter Try.func127, Try.ntmps127
    go_wp2
    go_ret
    exact ⟨by rw [HE.out]; rfl, rfl⟩
  · have HE : Hid (pfxB t s = false) := by show _ = _; unfold pfxB; rw [decide_eq_false h]; rfl
    go_enter Try.func127, Try.ntmps127
    go_wp2
    go_ret
    exact ⟨by rw [HE.out]; rfl, rfl⟩

theorem liteCutPrefix_any (t s : ByteArray) (w : World) (ht : t.size ≤ 140737488351232) (hs : s.size ≤ 140737488351232) :
    Calls Try.prog 119 #[.string t, .string s] w fun e w' => e = .returned (.tuple #[.string (pfxS t s), .bool (pfxB t s)]) ∧ w = w' := by
  have hP := fun wx => litePfx_any t s wx ht hs
  cases hb : pfxB t s
  · have HS : Hid (pfxS t s = t) := by show _ = _; simp [pfxS, hb]
    rw [hb] at hP
    clear hb
    go_enter Try.func119, Try.ntmps119
    go_wp2_with fail
    refine (hP _).mono ?_
    rintro e w' ⟨rfl, rfl⟩
    go_wp2_with fail
    go_ret2
    exact ⟨by rw [HS.out]; rfl, rfl⟩
  · have HS : Hid (pfxS t s = t.extract s.size t.size) := by show _ = _; simp [pfxS, hb]
    have hle : s.size ≤ t.size := by simp only [pfxB, Bool.and_eq_true, decide_eq_true_eq] at hb; exact hb.1
    have hi : (s.size : Int) ≤ (t.size : Int) := by omega
    rw [hb] at hP
    clear hb
    go_enter Try.func119, Try.ntmps119
    go_wp2_with fail
    refine (hP _).mono ?_
    rintro e w' ⟨rfl, rfl⟩
    go_wp2_with fail
    go_ret2
    exact ⟨by rw [HS.out]; rfl, rfl⟩

theorem cutPrefix_any (t s : ByteArray) (w : World) (ht : t.size ≤ 140737488351232) (hs : s.size ≤ 140737488351232) :
    Calls Try.prog 101 #[.string t, .string s] w fun e w' => e = .returned (.tuple #[.string (pfxS t s), .bool (pfxB t s)]) ∧ w = w' := by
  have hP := fun wx => liteCutPrefix_any t s wx ht hs
  generalize pfxB t s = b at *
  generalize pfxS t s = u at *
  go_enter Try.func101, Try.ntmps101
  go_wp2_with fail
  refine (hP _).mono ?_
  rintro e w' ⟨rfl, rfl⟩
  go_wp2_with fail
  go_ret2
  exact ⟨rfl, rfl⟩

theorem pfx_strI (t s : ByteArray) : pfxB t s = decide ((strI t).take s.size = strI s) := by
  have h1 := strI_len t
  have h2 := strI_len s
  have e : ((t.extract 0 s.size).toList == s.toList) = decide ((strI t).take s.size = strI s) := by
    rw [ByteArray.toList_eq, ByteArray.toList_eq]
    have e3 : strI (t.extract 0 s.size) = (strI t).take s.size := by rw [strI_extract]; rfl
    rw [← e3]
    by_cases h : (t.extract 0 s.size).data.toList = s.data.toList
    · have : strI (t.extract 0 s.size) = strI s := by unfold strI; rw [h]
      rw [h, decide_eq_true this]; simp
    · have : ¬ strI (t.extract 0 s.size) = strI s := fun h' => h (by rw [strI_inj h'])
      rw [decide_eq_false this]; simpa using h
  unfold pfxB; rw [e]
  by_cases hs : s.size ≤ t.size
  · simp [hs]
  · have : ¬ (strI t).take s.size = strI s := fun h => by
      have := congrArg List.length h
      rw [List.length_take] at this; omega
    rw [decide_eq_false this, Bool.and_false]
theorem pfxS_strI {t s : ByteArray} (h : pfxB t s = true) : strI (pfxS t s) = (strI t).drop s.size := by
  rw [pfxS, if_pos h, strI_extract, List.take_of_length_le (by rw [strI_len]; omega)]
theorem pfxS_size (t s : ByteArray) : (pfxS t s).size ≤ t.size := by
  unfold pfxS; split
  · rw [ByteArray.size_extract]; omega
  · omega

theorem num_neg {l : List Int} (h : l.take 1 = [45]) : numB l = (plainB (l.drop 1) && decide (1 ≤ valF 10 0 (l.drop 1) ∧ valF 10 0 (l.drop 1) ≤ 2147483648)) ∧ numV l = 4294967296 - valF 10 0 (l.drop 1) := by
  unfold numB numV; rw [if_pos h, if_pos h]; exact ⟨rfl, rfl⟩
theorem num_hex {l : List Int} (h0 : ¬ l.take 1 = [45]) (h : l.take 2 = [48, 120]) : numB l = (digsB 16 (l.drop 2) && decide (l.length ≤ 10)) ∧ numV l = valF 16 0 (l.drop 2) := by
  unfold numB numV; rw [if_neg h0, if_neg h0, if_pos h, if_pos h]; exact ⟨rfl, rfl⟩
theorem num_plain {l : List Int} (h0 : ¬ l.take 1 = [45]) (h : ¬ l.take 2 = [48, 120]) : numB l = plainB l ∧ numV l = valF 10 0 l := by
  unfold numB numV; rw [if_neg h0, if_neg h0, if_neg h, if_neg h]; exact ⟨rfl, rfl⟩

def minusS : ByteArray := { data := #[45] }
def hexS : ByteArray := { data := #[48, 120] }

theorem number_any (s : ByteArray) (w : World) (hs : s.size ≤ 140737488351232) :
    Calls Try.prog 81 #[.string s] w fun e w' => (∃ x : Int, e = .returned (.tuple #[.int .u32 x, .bool (numB (strI s))]) ∧ 0 ≤ x ∧ x < 4294967296 ∧ (numB (strI s) = true → x = numV (strI s))) ∧ w = w' := by
  have hP : ∀ wx, _ := fun wx => cutPrefix_any s { data := #[45] } wx hs (by decide)
  have hQ : ∀ wx, _ := fun wx => cutPrefix_any s { data := #[48, 120] } wx hs (by decide)
  have e1 := pfx_strI s { data := #[45] }
  have e2 := pfx_strI s { data := #[48, 120] }
  rw [show strI { data := #[45] } = [45] from rfl, show ByteArray.size { data := #[45] } = 1 from rfl] at e1
  rw [show strI { data := #[48, 120] } = [48, 120] from rfl, show ByteArray.size { data := #[48, 120] } = 2 from rfl] at e2
  by_cases hm : (strI s).take 1 = [45]
  · rw [decide_eq_true hm] at e1
    have e3 := pfxS_strI e1
    rw [show ByteArray.size { data := #[45] } = 1 from rfl] at e3
    have hN := fun wx => plainNumber_any (pfxS s { data := #[45] }) wx (Nat.le_trans (pfxS_size _ _) hs)
    obtain ⟨n1, n2⟩ := num_neg hm
    rw [e3] at hN
    rw [e1] at hP
    have N1 : Hid (numB (strI s) = _) := n1
    have N2 : Hid (numV (strI s) = _) := n2
    generalize pfxS s { data := #[45] } = u at hP hN
    generalize (strI s).drop 1 = l at hN N1 N2
    generalize plainB l = B at hN N1
    generalize valF 10 0 l = v at hN N1 N2
    clear hQ e1 e2 e3 n1 n2 hm
    go_enter Try.func81, Try.ntmps81
    go_wp2_with fail
    refine (hP _).mono ?_
    rintro e w' ⟨rfl, rfl⟩
    go_wp2_with fail
    refine (hN _).mono ?_
    rintro e w' ⟨⟨x, rfl, hx0, hx1, hx⟩, rfl⟩
    cases B
    · have HB : Hid (numB (strI s) = false) := by show _ = _; rw [N1.out]; rfl
      clear N1 N2 hx hP hN
      go_wp2
      go_ret2
      exact ⟨⟨_, by rw [HB.out]; rfl, by omega, by omega, fun h => by rw [HB.out] at h; cases h⟩, rfl⟩
    · obtain rfl := hx rfl
      clear hx hP hN
      by_cases h1 : 1 ≤ x
      · have HB : Hid (numB (strI s) = decide (x ≤ 2147483648)) := by show _ = _; rw [N1.out]; simp [h1]
        go_wp2
        go_ret2
        exact ⟨⟨-x % 4294967296, by rw [HB.out]; rfl, by omega, by omega, fun h => by rw [HB.out] at h; have := of_decide_eq_true h; rw [N2.out]; omega⟩, rfl⟩
      · have HB : Hid (numB (strI s) = false) := by show _ = _; rw [N1.out]; simp [h1]
        go_wp2
        go_ret2
        exact ⟨⟨_, by rw [HB.out]; rfl, by omega, by omega, fun h => by rw [HB.out] at h; cases h⟩, rfl⟩
  · rw [decide_eq_false hm] at e1
    rw [e1] at hP
    by_cases hx : (strI s).take 2 = [48, 120]
    · rw [decide_eq_true hx] at e2
      have e3 := pfxS_strI e2
      rw [show ByteArray.size { data := #[48, 120] } = 2 from rfl] at e3
      have hN := fun wx => digitsOf_any (pfxS s { data := #[48, 120] }) 16 wx (Nat.le_trans (pfxS_size _ _) hs) (.inr rfl)
      obtain ⟨n1, n2⟩ := num_hex hm hx
      rw [e3] at hN
      rw [e2] at hQ
      have hlen : (pfxS s { data := #[48, 120] }).size = s.size - 2 := by
        rw [← strI_len, e3, List.length_drop, strI_len]
      have h2 : 2 ≤ s.size := by
        have := congrArg List.length hx
        rw [List.length_take, strI_len] at this
        simp at this; omega
      have N1 : Hid (numB (strI s) = _) := n1
      have N2 : Hid (numV (strI s) = _) := n2
      rw [strI_len] at N1
      generalize pfxS s { data := #[45] } = u' at hP
      generalize pfxS s { data := #[48, 120] } = u at hQ hN hlen
      generalize (strI s).drop 2 = l at hN N1 N2
      generalize digsB 16 l = B at hN N1
      generalize valF 16 0 l = v at hN N1 N2
      have hu : u.size ≤ 140737488351232 := by omega
      have HLEN : Hid (u.size = s.size - 2) := hlen
      clear e1 e2 e3 n1 n2 hm hx hlen
      go_enter Try.func81, Try.ntmps81
      go_wp2_with fail
      refine (hP _).mono ?_
      rintro e w' ⟨rfl, rfl⟩
      go_wp2_with fail
      refine (hQ _).mono ?_
      rintro e w' ⟨rfl, rfl⟩
      go_wp2_with fail
      refine (hN _).mono ?_
      rintro e w' ⟨⟨x, rfl, hx0, hx1, hx⟩, rfl⟩
      cases B
      · have HB : Hid (numB (strI s) = false) := by show _ = _; rw [N1.out]; rfl
        clear N1 N2 hx hP hN hQ
        go_wp2
        go_ret2
        exact ⟨⟨_, by rw [HB.out]; rfl, hx0, hx1, fun h => by rw [HB.out] at h; cases h⟩, rfl⟩
      · obtain rfl := hx rfl
        clear hx hP hN hQ
        have HB : Hid (numB (strI s) = decide ((u.size : Int) ≤ 8)) := by
          show _ = _
          have hlen := HLEN.out
          rw [N1.out]
          by_cases h : s.size ≤ 10
          · rw [decide_eq_true h, decide_eq_true (by omega)]; rfl
          · rw [decide_eq_false h, decide_eq_false (by omega)]; rfl
        go_wp2
        go_ret2
        exact ⟨⟨_, by rw [HB.out]; rfl, hx0, hx1, fun h => by rw [N2.out]⟩, rfl⟩
    · rw [decide_eq_false hx] at e2
      rw [e2] at hQ
      have hN := fun wx => plainNumber_any s wx hs
      obtain ⟨n1, n2⟩ := num_plain hm hx
      have N1 : Hid (numB (strI s) = _) := n1
      have N2 : Hid (numV (strI s) = _) := n2
      clear n1 n2 e1 e2 hm hx
      generalize pfxS s { data := #[45] } = u' at hP
      generalize pfxS s { data := #[48, 120] } = u at hQ
      generalize plainB (strI s) = B at hN N1
      generalize valF 10 0 (strI s) = v at hN N2
      go_enter Try.func81, Try.ntmps81
      go_wp2_with fail
      refine (hP _).mono ?_
      rintro e w' ⟨rfl, rfl⟩
      go_wp2_with fail
      refine (hQ _).mono ?_
      rintro e w' ⟨rfl, rfl⟩
      go_wp2_with fail
      refine (hN _).mono ?_
      rintro e w' ⟨⟨x, rfl, hx0, hx1, hx⟩, rfl⟩
      go_wp2_with fail
      go_ret2
      exact ⟨⟨_, by rw [N1.out]; rfl, hx0, hx1, fun h => by rw [N2.out]; exact hx (by rw [N1.out] at h; exact h)⟩, rfl⟩

theorem lexNumber_any (s : ByteArray) (w : World) (hs : s.size ≤ 140737488351232) :
    Calls Try.prog 64 #[.string s] w fun e w' => e = .returned (.tuple #[.int .u32 (numOut (strI s)), .int .i64 (numErr (strI s))]) ∧ w = w' := by
  have hN := fun wx => number_any s wx hs
  cases hb : numB (strI s)
  · have HB : Hid (numOut (strI s) = 0 ∧ numErr (strI s) = 62) := by show _ ∧ _; simp [numOut, numErr, hb]
    rw [hb] at hN
    clear hb
    go_enter Try.func64, Try.ntmps64
    go_wp2_with fail
    refine (hN _).mono ?_
    rintro e w' ⟨⟨x, rfl, hx0, hx1, hx⟩, rfl⟩
    go_wp2_with fail
    go_ret2
    exact ⟨by rw [HB.out.1, HB.out.2]; rfl, rfl⟩
  · have HB : Hid (numOut (strI s) = numV (strI s) ∧ numErr (strI s) = 0) := by show _ ∧ _; simp [numOut, numErr, hb]
    rw [hb] at hN
    clear hb
    go_enter Try.func64, Try.ntmps64
    go_wp2_with fail
    refine (hN _).mono ?_
    rintro e w' ⟨⟨x, rfl, hx0, hx1, hx⟩, rfl⟩
    have HX : Hid (x = numV (strI s)) := hx trivial
    clear hx
    go_wp2_with fail
    go_ret2
    exact ⟨by rw [HB.out.1, HB.out.2, ← HX.out]; rfl, rfl⟩

end Go.Proofs.Yteckmcgihbicfab
