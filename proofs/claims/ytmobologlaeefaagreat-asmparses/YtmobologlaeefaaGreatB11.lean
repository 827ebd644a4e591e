/-
  Texts laid together in one: LexNumber, WordsByteAt, WordsTextEnd, AsmWanted, AsmTakeW.
-/
import Derived.WalkSpells
import Derived.WalkMore
import Derived.Test.YtmobologlaeefaaGreatProg
import Derived.Test.YtmobologlaeefaaGreatB10
import Derived.Test.YtmobologlaeefaaGreatB01
import Derived.BigRegion
import Derived.Test.YtmobologlaeefaaGreatB03
import Derived.Test.YtmobologlaeefaaGreatB08
import Derived.Test.YtmobologlaeefaaGreatB07
import Derived.Test.YtmobologlaeefaaGreatB06
/-
  What digitsOf, plainNumber, number and Number of the layer lex return, for every text; nothing turns.
-/
namespace Go.Proofs.YtmobologlaeefaaGreat
open Go.RowKit
set_option maxRecDepth 10000
set_option linter.unusedVariables false
set_option linter.unusedSimpArgs false

theorem str_empty_strI {s : ByteArray} : (strI s).isEmpty = s.toList.isEmpty := by
  rw [ByteArray.toList_eq, strI, List.isEmpty_map]

set_option maxHeartbeats 1000000 in
theorem digitsOf_any (s : ByteArray) (b : Int) (w : World) (hs : s.size ≤ 140737488351232) (hb : b = 10 ∨ b = 16) :
    Calls Tryz.prog 189 #[.string s, .int .u64 b] w fun e w' => (∃ x : Int, e = .returned (.tuple #[.int .u32 x, .bool (digsB b (strI s))]) ∧ 0 ≤ x ∧ x < 4294967296 ∧ (digsB b (strI s) = true → x = valF b 0 (strI s))) ∧ w = w' := by
  have HLen := strI_len s
  have HF : Hid (∀ k, k < s.size → b ≤ dvI (nth (strI s) k) → digsB b (strI s) = false) := fun k hk h => digs_not (by omega) h
  have HG : Hid (∀ k, 4294967296 ≤ valF b 0 ((strI s).take k) → digsB b (strI s) = false) := fun k h => digs_large (by omega) h
  have HA : Hid (∀ k, k < s.size → allD b ((strI s).take k) = true → dvI (nth (strI s) k) < b → allD b ((strI s).take (k + 1)) = true) := fun k hk h h1 => allD_snoc (by omega) h h1
  have HV : Hid (∀ k, k < s.size → valF b 0 ((strI s).take (k + 1)) = valF b 0 ((strI s).take k) * b + dvI (nth (strI s) k)) := fun k hk => valF_take b _ k (by omega)
  have HW : Hid (∀ k, 0 ≤ valF b 0 ((strI s).take k)) := fun k => valF_lo b _ (by omega)
  have HE : Hid (allD b ((strI s).take s.size) = true → valF b 0 ((strI s).take s.size) < 4294967296 → digsB b (strI s) = !s.toList.isEmpty ∧ valF b 0 ((strI s).take s.size) = valF b 0 (strI s)) := fun h1 h2 => by
    rw [List.take_of_length_le (by omega)] at h1 h2 ⊢
    refine ⟨?_, rfl⟩
    rw [digs_all h1 h2, str_empty_strI]
  clear HLen
  go_enter Tryz.func189, Tryz.ntmps189
  go_wp2
  go_loop [6, 11] (fun n i => ∃ k : Nat, k ≤ s.size ∧ i = .int .i64 k ∧ n = .int .u64 (valF b 0 ((strI s).take k)) ∧ allD b ((strI s).take k) = true ∧ valF b 0 ((strI s).take k) < 4294967296) (fun _ i => s.size - (intOf i).toNat)
  case atStart => exact ⟨0, Nat.zero_le _, rfl, rfl, rfl, by simp [valF]⟩
  case round =>
    obtain ⟨k, hk, rfl, rfl, hall, hlt32⟩ := hrel
    have hn0 := HW.out k
    by_cases hlt : k < s.size
    · have hc0 : (0 : Int) ≤ (s[k].toNat : Int) := by omega
      have hc1 : (s[k].toNat : Int) < 256 := by have := s[k].toNat_lt; omega
      have hD := fun wx => digitValue_any (s[k].toNat : Int) wx hc0 hc1
      have d0 := dv_lo (s[k].toNat : Int)
      have d1 := dv_hi (s[k].toNat : Int)
      have eF := HF.out k hlt
      have eG := HG.out (k + 1)
      have eA := HA.out k hlt hall
      have eV := HV.out k hlt
      rw [nth_strI s k hlt] at eF eA eV
      rw [eV] at eG
      have EF : Hid (b ≤ dvI (s[k].toNat : Int) → digsB b (strI s) = false) := eF
      have EG : Hid (4294967296 ≤ valF b 0 ((strI s).take k) * b + dvI (s[k].toNat : Int) → digsB b (strI s) = false) := eG
      have EA : Hid (dvI (s[k].toNat : Int) < b → allD b ((strI s).take (k + 1)) = true) := eA
      have EV : Hid (valF b 0 ((strI s).take (k + 1)) = valF b 0 ((strI s).take k) * b + dvI (s[k].toNat : Int)) := eV
      clear eF eG eA eV hall
      generalize dvI (s[k].toNat : Int) = d at *
      generalize valF b 0 ((strI s).take k) = n at *
      by_cases hge : b ≤ d
      · have HB : Hid (digsB b (strI s) = false) := EF.out hge
        have hdec : decide (b ≤ d) = true := decide_eq_true hge
        go_wp2_with (go_at_call 170; refine (hD _).mono ?_; rintro e w' ⟨rfl, rfl⟩)
        go_ret2
        exact ⟨⟨0, by rw [HB.out]; rfl, by omega, by omega, fun h => by rw [HB.out] at h; cases h⟩, rfl⟩
      · have hdec : decide (b ≤ d) = false := decide_eq_false hge
        by_cases hbig : 4294967296 ≤ n * b + d
        · have HB : Hid (digsB b (strI s) = false) := EG.out hbig
          have hdec2 : decide ((4294967295 : Int) < n * b + d) = true := decide_eq_true (by omega)
          have hw1 : 0 ≤ n * b ∧ n * b < 18446744073709551616 := by rcases hb with rfl | rfl <;> omega
          have hw2 : 0 ≤ n * b + d ∧ n * b + d < 18446744073709551616 := by rcases hb with rfl | rfl <;> omega
          clear hbig
          rcases hb with rfl | rfl <;>
          · go_wp2_with (go_at_call 170; refine (hD _).mono ?_; rintro e w' ⟨rfl, rfl⟩)
            go_ret2
            exact ⟨⟨0, by rw [HB.out]; rfl, by omega, by omega, fun h => by rw [HB.out] at h; cases h⟩, rfl⟩
        · have hdec2 : decide ((4294967295 : Int) < n * b + d) = false := decide_eq_false (by omega)
          have hsm : n * b + d < 4294967296 := by omega
          clear hbig
          rcases hb with rfl | rfl <;>
          · go_wp2_with (go_at_call 170; refine (hD _).mono ?_; rintro e w' ⟨rfl, rfl⟩)
            go_round
            case rel => exact ⟨k + 1, by omega, by go_num, by rw [EV.out], EA.out (by omega), by rw [EV.out]; exact hsm⟩
            case measure => simp [intOf]; omega
    · obtain rfl : k = s.size := by omega
      obtain ⟨e1, e2⟩ := HE.out hall hlt32
      have E2 : Hid (valF b 0 ((strI s).take s.size) = valF b 0 (strI s)) := e2
      clear e2 hall
      generalize valF b 0 ((strI s).take s.size) = n at *
      have E1 : Hid (digsB b (strI s) = !s.toList.isEmpty) := e1
      clear e1
      go_wp2
      go_ret2
      refine ⟨⟨n, ?_, hn0, hlt32, fun _ => E2.out⟩, rfl⟩
      rw [E1.out]; rfl

theorem plainNumber_any (s : ByteArray) (w : World) (hs : s.size ≤ 140737488351232) :
    Calls Tryz.prog 172 #[.string s] w fun e w' => (∃ x : Int, e = .returned (.tuple #[.int .u32 x, .bool (plainB (strI s))]) ∧ 0 ≤ x ∧ x < 4294967296 ∧ (plainB (strI s) = true → x = valF 10 0 (strI s))) ∧ w = w' := by
  have hD := fun wx => digitsOf_any s 10 wx hs (.inl rfl)
  by_cases h1 : 1 < s.size
  · have h0 := nth_strI s 0 (by omega)
    by_cases hz : (s[0].toNat : Int) = 48
    · have HB : Hid (plainB (strI s) = false) := plain_zero (by rw [strI_len]; exact h1) (by rw [h0]; exact hz)
      have hz' : ((s[0].toNat : Int) == 48) = true := by simpa using hz
      clear h0 hz
      go_enter Tryz.func172, Tryz.ntmps172
      go_wp2_with fail
      go_ret2
      exact ⟨⟨0, by rw [HB.out]; rfl, by omega, by omega, fun h => by rw [HB.out] at h; cases h⟩, rfl⟩
    · have HB : Hid (plainB (strI s) = digsB 10 (strI s)) := plain_digs (by rw [h0]; intro h; exact hz h.2)
      have hz' : ((s[0].toNat : Int) == 48) = false := by simpa using hz
      clear h0 hz
      go_enter Tryz.func172, Tryz.ntmps172
      go_wp2_with fail
      refine (hD _).mono ?_
      rintro e w' ⟨⟨x, rfl, hx0, hx1, hx⟩, rfl⟩
      go_wp2_with fail
      go_ret2
      exact ⟨⟨x, by rw [HB.out]; rfl, hx0, hx1, fun h => hx (by rw [HB.out] at h; exact h)⟩, rfl⟩
  · have HB : Hid (plainB (strI s) = digsB 10 (strI s)) := plain_digs (by rw [strI_len]; intro h; exact h1 h.1)
    go_enter Tryz.func172, Tryz.ntmps172
    go_wp2_with fail
    refine (hD _).mono ?_
    rintro e w' ⟨⟨x, rfl, hx0, hx1, hx⟩, rfl⟩
    go_wp2_with fail
    go_ret2
    exact ⟨⟨x, by rw [HB.out]; rfl, hx0, hx1, fun h => hx (by rw [HB.out] at h; exact h)⟩, rfl⟩

/-- A text begins with another. -/
def pfxB (t s : ByteArray) : Bool := decide (s.size ≤ t.size) && ((t.extract 0 s.size).toList == s.toList)
/-- What is left behind it. -/
def pfxS (t s : ByteArray) : ByteArray := if pfxB t s then t.extract s.size t.size else t

theorem litePfx_any (t s : ByteArray) (w : World) (ht : t.size ≤ 140737488351232) (hs : s.size ≤ 140737488351232) :
    Calls Tryz.prog 192 #[.string t, .string s] w fun e w' => e = .returned (.bool (pfxB t s)) ∧ w = w' := by
  by_cases h : s.size ≤ t.size
  · have HE : Hid (pfxB t s = ((t.extract 0 s.size).toList == s.toList)) := by show _ = _; unfold pfxB; rw [decide_eq_true h]; rfl
    have h' : decide ((t.size : Int) ≥ (s.size : Int)) = true := decide_eq_true (by omega)
    have hi : (s.size : Int) ≤ (t.size : Int) := by omega
    go_enter Tryz.func192, Tryz.ntmps192
    go_wp2
    go_ret
    exact ⟨by rw [HE.out]; rfl, rfl⟩
  · have HE : Hid (pfxB t s = false) := by show _ = _; unfold pfxB; rw [decide_eq_false h]; rfl
    go_enter Tryz.func192, Tryz.ntmps192
    go_wp2
    go_ret
    exact ⟨by rw [HE.out]; rfl, rfl⟩

theorem liteCutPrefix_any (t s : ByteArray) (w : World) (ht : t.size ≤ 140737488351232) (hs : s.size ≤ 140737488351232) :
    Calls Tryz.prog 202 #[.string t, .string s] w fun e w' => e = .returned (.tuple #[.string (pfxS t s), .bool (pfxB t s)]) ∧ w = w' := by
  have hP := fun wx => litePfx_any t s wx ht hs
  cases hb : pfxB t s
  · have HS : Hid (pfxS t s = t) := by show _ = _; simp [pfxS, hb]
    rw [hb] at hP
    clear hb
    go_enter Tryz.func202, Tryz.ntmps202
    go_wp2_with fail
    refine (hP _).mono ?_
    rintro e w' ⟨rfl, rfl⟩
    go_wp2_with fail
    go_ret2
    exact ⟨by rw [HS.out]; rfl, rfl⟩
  · have HS : Hid (pfxS t s = t.extract s.size t.size) := by show _ = _; simp [pfxS, hb]
    have hle : s.size ≤ t.size := by simp only [pfxB, Bool.and_eq_true, decide_eq_true_eq] at hb; exact hb.1
    have hi : (s.size : Int) ≤ (t.size : Int) := by omega
    rw [hb] at hP
    clear hb
    go_enter Tryz.func202, Tryz.ntmps202
    go_wp2_with fail
    refine (hP _).mono ?_
    rintro e w' ⟨rfl, rfl⟩
    go_wp2_with fail
    go_ret2
    exact ⟨by rw [HS.out]; rfl, rfl⟩

theorem cutPrefix_any (t s : ByteArray) (w : World) (ht : t.size ≤ 140737488351232) (hs : s.size ≤ 140737488351232) :
    Calls Tryz.prog 190 #[.string t, .string s] w fun e w' => e = .returned (.tuple #[.string (pfxS t s), .bool (pfxB t s)]) ∧ w = w' := by
  have hP := fun wx => liteCutPrefix_any t s wx ht hs
  generalize pfxB t s = b at *
  generalize pfxS t s = u at *
  go_enter Tryz.func190, Tryz.ntmps190
  go_wp2_with fail
  refine (hP _).mono ?_
  rintro e w' ⟨rfl, rfl⟩
  go_wp2_with fail
  go_ret2
  exact ⟨rfl, rfl⟩

theorem pfx_strI (t s : ByteArray) : pfxB t s = decide ((strI t).take s.size = strI s) := by
  have h1 := strI_len t
  have h2 := strI_len s
  have e : ((t.extract 0 s.size).toList == s.toList) = decide ((strI t).take s.size = strI s) := by
    rw [ByteArray.toList_eq, ByteArray.toList_eq]
    have e3 : strI (t.extract 0 s.size) = (strI t).take s.size := by rw [strI_extract]; rfl
    rw [← e3]
    by_cases h : (t.extract 0 s.size).data.toList = s.data.toList
    · have : strI (t.extract 0 s.size) = strI s := by unfold strI; rw [h]
      rw [h, decide_eq_true this]; simp
    · have : ¬ strI (t.extract 0 s.size) = strI s := fun h' => h (by rw [strI_inj h'])
      rw [decide_eq_false this]; simpa using h
  unfold pfxB; rw [e]
  by_cases hs : s.size ≤ t.size
  · simp [hs]
  · have : ¬ (strI t).take s.size = strI s := fun h => by
      have := congrArg List.length h
      rw [List.length_take] at this; omega
    rw [decide_eq_false this, Bool.and_false]
theorem pfxS_strI {t s : ByteArray} (h : pfxB t s = true) : strI (pfxS t s) = (strI t).drop s.size := by
  rw [pfxS, if_pos h, strI_extract, List.take_of_length_le (by rw [strI_len]; omega)]
theorem pfxS_size (t s : ByteArray) : (pfxS t s).size ≤ t.size := by
  unfold pfxS; split
  · rw [ByteArray.size_extract]; omega
  · omega

theorem num_neg {l : List Int} (h : l.take 1 = [45]) : numB l = (plainB (l.drop 1) && decide (1 ≤ valF 10 0 (l.drop 1) ∧ valF 10 0 (l.drop 1) ≤ 2147483648)) ∧ numV l = 4294967296 - valF 10 0 (l.drop 1) := by
  unfold numB numV; rw [if_pos h, if_pos h]; exact ⟨rfl, rfl⟩
theorem num_hex {l : List Int} (h0 : ¬ l.take 1 = [45]) (h : l.take 2 = [48, 120]) : numB l = (digsB 16 (l.drop 2) && decide (l.length ≤ 10)) ∧ numV l = valF 16 0 (l.drop 2) := by
  unfold numB numV; rw [if_neg h0, if_neg h0, if_pos h, if_pos h]; exact ⟨rfl, rfl⟩
theorem num_plain {l : List Int} (h0 : ¬ l.take 1 = [45]) (h : ¬ l.take 2 = [48, 120]) : numB l = plainB l ∧ numV l = valF 10 0 l := by
  unfold numB numV; rw [if_neg h0, if_neg h0, if_neg h, if_neg h]; exact ⟨rfl, rfl⟩

def minusS : ByteArray := { data := #[45] }
def hexS : ByteArray := { data := #[48, 120] }

theorem number_any (s : ByteArray) (w : World) (hs : s.size ≤ 140737488351232) :
    Calls Tryz.prog 173 #[.string s] w fun e w' => (∃ x : Int, e = .returned (.tuple #[.int .u32 x, .bool (numB (strI s))]) ∧ 0 ≤ x ∧ x < 4294967296 ∧ (numB (strI s) = true → x = numV (strI s))) ∧ w = w' := by
  have hP : ∀ wx, _ := fun wx => cutPrefix_any s { data := #[45] } wx hs (by decide)
  have hQ : ∀ wx, _ := fun wx => cutPrefix_any s { data := #[48, 120] } wx hs (by decide)
  have e1 := pfx_strI s { data := #[45] }
  have e2 := pfx_strI s { data := #[48, 120] }
  rw [show strI { data := #[45] } = [45] from rfl, show ByteArray.size { data := #[45] } = 1 from rfl] at e1
  rw [show strI { data := #[48, 120] } = [48, 120] from rfl, show ByteArray.size { data := #[48, 120] } = 2 from rfl] at e2
  by_cases hm : (strI s).take 1 = [45]
  · rw [decide_eq_true hm] at e1
    have e3 := pfxS_strI e1
    rw [show ByteArray.size { data := #[45] } = 1 from rfl] at e3
    have hN := fun wx => plainNumber_any (pfxS s { data := #[45] }) wx (Nat.le_trans (pfxS_size _ _) hs)
    obtain ⟨n1, n2⟩ := num_neg hm
    rw [e3] at hN
    rw [e1] at hP
    have N1 : Hid (numB (strI s) = _) := n1
    have N2 : Hid (numV (strI s) = _) := n2
    generalize pfxS s { data := #[45] } = u at hP hN
    generalize (strI s).drop 1 = l at hN N1 N2
    generalize plainB l = B at hN N1
    generalize valF 10 0 l = v at hN N1 N2
    clear hQ e1 e2 e3 n1 n2 hm
    go_enter Tryz.func173, Tryz.ntmps173
    go_wp2_with fail
    refine (hP _).mono ?_
    rintro e w' ⟨rfl, rfl⟩
    go_wp2_with fail
    refine (hN _).mono ?_
    rintro e w' ⟨⟨x, rfl, hx0, hx1, hx⟩, rfl⟩
    cases B
    · have HB : Hid (numB (strI s) = false) := by show _ = _; rw [N1.out]; rfl
      clear N1 N2 hx hP hN
      go_wp2
      go_ret2
      exact ⟨⟨_, by rw [HB.out]; rfl, by omega, by omega, fun h => by rw [HB.out] at h; cases h⟩, rfl⟩
    · obtain rfl := hx rfl
      clear hx hP hN
      by_cases h1 : 1 ≤ x
      · have HB : Hid (numB (strI s) = decide (x ≤ 2147483648)) := by show _ = _; rw [N1.out]; simp [h1]
        go_wp2
        go_ret2
        exact ⟨⟨-x % 4294967296, by rw [HB.out]; rfl, by omega, by omega, fun h => by rw [HB.out] at h; have := of_decide_eq_true h; rw [N2.out]; omega⟩, rfl⟩
      · have HB : Hid (numB (strI s) = false) := by show _ = _; rw [N1.out]; simp [h1]
        go_wp2
        go_ret2
        exact ⟨⟨_, by rw [HB.out]; rfl, by omega, by omega, fun h => by rw [HB.out] at h; cases h⟩, rfl⟩
  · rw [decide_eq_false hm] at e1
    rw [e1] at hP
    by_cases hx : (strI s).take 2 = [48, 120]
    · rw [decide_eq_true hx] at e2
      have e3 := pfxS_strI e2
      rw [show ByteArray.size { data := #[48, 120] } = 2 from rfl] at e3
      have hN := fun wx => digitsOf_any (pfxS s { data := #[48, 120] }) 16 wx (Nat.le_trans (pfxS_size _ _) hs) (.inr rfl)
      obtain ⟨n1, n2⟩ := num_hex hm hx
      rw [e3] at hN
      rw [e2] at hQ
      have hlen : (pfxS s { data := #[48, 120] }).size = s.size - 2 := by
        rw [← strI_len, e3, List.length_drop, strI_len]
      have h2 : 2 ≤ s.size := by
        have := congrArg List.length hx
        rw [List.length_take, strI_len] at this
        simp at this; omega
      have N1 : Hid (numB (strI s) = _) := n1
      have N2 : Hid (numV (strI s) = _) := n2
      rw [strI_len] at N1
      generalize pfxS s { data := #[45] } = u' at hP
      generalize pfxS s { data := #[48, 120] } = u at hQ hN hlen
      generalize (strI s).drop 2 = l at hN N1 N2
      generalize digsB 16 l = B at hN N1
      generalize valF 16 0 l = v at hN N1 N2
      have hu : u.size ≤ 140737488351232 := by omega
      have HLEN : Hid (u.size = s.size - 2) := hlen
      clear e1 e2 e3 n1 n2 hm hx hlen
      go_enter Tryz.func173, Tryz.ntmps173
      go_wp2_with fail
      refine (hP _).mono ?_
      rintro e w' ⟨rfl, rfl⟩
      go_wp2_with fail
      refine (hQ _).mono ?_
      rintro e w' ⟨rfl, rfl⟩
      go_wp2_with fail
      refine (hN _).mono ?_
      rintro e w' ⟨⟨x, rfl, hx0, hx1, hx⟩, rfl⟩
      cases B
      · have HB : Hid (numB (strI s) = false) := by show _ = _; rw [N1.out]; rfl
        clear N1 N2 hx hP hN hQ
        go_wp2
        go_ret2
        exact ⟨⟨_, by rw [HB.out]; rfl, hx0, hx1, fun h => by rw [HB.out] at h; cases h⟩, rfl⟩
      · obtain rfl := hx rfl
        clear hx hP hN hQ
        have HB : Hid (numB (strI s) = decide ((u.size : Int) ≤ 8)) := by
          show _ = _
          have hlen := HLEN.out
          rw [N1.out]
          by_cases h : s.size ≤ 10
          · rw [decide_eq_true h, decide_eq_true (by omega)]; rfl
          · rw [decide_eq_false h, decide_eq_false (by omega)]; rfl
        go_wp2
        go_ret2
        exact ⟨⟨_, by rw [HB.out]; rfl, hx0, hx1, fun h => by rw [N2.out]⟩, rfl⟩
    · rw [decide_eq_false hx] at e2
      rw [e2] at hQ
      have hN := fun wx => plainNumber_any s wx hs
      obtain ⟨n1, n2⟩ := num_plain hm hx
      have N1 : Hid (numB (strI s) = _) := n1
      have N2 : Hid (numV (strI s) = _) := n2
      clear n1 n2 e1 e2 hm hx
      generalize pfxS s { data := #[45] } = u' at hP
      generalize pfxS s { data := #[48, 120] } = u at hQ
      generalize plainB (strI s) = B at hN N1
      generalize valF 10 0 (strI s) = v at hN N2
      go_enter Tryz.func173, Tryz.ntmps173
      go_wp2_with fail
      refine (hP _).mono ?_
      rintro e w' ⟨rfl, rfl⟩
      go_wp2_with fail
      refine (hQ _).mono ?_
      rintro e w' ⟨rfl, rfl⟩
      go_wp2_with fail
      refine (hN _).mono ?_
      rintro e w' ⟨⟨x, rfl, hx0, hx1, hx⟩, rfl⟩
      go_wp2_with fail
      go_ret2
      exact ⟨⟨_, by rw [N1.out]; rfl, hx0, hx1, fun h => by rw [N2.out]; exact hx (by rw [N1.out] at h; exact h)⟩, rfl⟩

theorem lexNumber_any (s : ByteArray) (w : World) (hs : s.size ≤ 140737488351232) :
    Calls Tryz.prog 153 #[.string s] w fun e w' => e = .returned (.tuple #[.int .u32 (numOut (strI s)), .int .i64 (numErr (strI s))]) ∧ w = w' := by
  have hN := fun wx => number_any s wx hs
  cases hb : numB (strI s)
  · have HB : Hid (numOut (strI s) = 0 ∧ numErr (strI s) = 62) := by show _ ∧ _; simp [numOut, numErr, hb]
    rw [hb] at hN
    clear hb
    go_enter Tryz.func153, Tryz.ntmps153
    go_wp2_with fail
    refine (hN _).mono ?_
    rintro e w' ⟨⟨x, rfl, hx0, hx1, hx⟩, rfl⟩
    go_wp2_with fail
    go_ret2
    exact ⟨by rw [HB.out.1, HB.out.2]; rfl, rfl⟩
  · have HB : Hid (numOut (strI s) = numV (strI s) ∧ numErr (strI s) = 0) := by show _ ∧ _; simp [numOut, numErr, hb]
    rw [hb] at hN
    clear hb
    go_enter Tryz.func153, Tryz.ntmps153
    go_wp2_with fail
    refine (hN _).mono ?_
    rintro e w' ⟨⟨x, rfl, hx0, hx1, hx⟩, rfl⟩
    have HX : Hid (x = numV (strI s)) := hx trivial
    clear hx
    go_wp2_with fail
    go_ret2
    exact ⟨by rw [HB.out.1, HB.out.2, ← HX.out]; rfl, rfl⟩

end Go.Proofs.YtmobologlaeefaaGreat

/-
  What byteAt of the words package returns, for every word and every place from 0 to 3.
-/
namespace Go.Proofs.YtmobologlaeefaaGreat
open Go.RowKit
set_option maxRecDepth 10000

theorem byteAt_any (x p : Int) (w : World) (hx : 0 ≤ x) (hx2 : x < 4294967296) (h0 : 0 ≤ p) (h3 : p < 4) :
    Calls Tryz.prog 115 #[.int .u32 x, .int .i64 p] w fun e w' => e = .returned (.int .u8 (byt x p.toNat)) ∧ w = w' := by
  rcases (show p = 0 ∨ p = 1 ∨ p = 2 ∨ p = 3 by omega) with rfl | rfl | rfl | rfl
  · go_enter Tryz.func115, Tryz.ntmps115
    go_wp2
    go_ret
    exact ⟨ret_int (by simp [byt]), rfl⟩
  · go_enter Tryz.func115, Tryz.ntmps115
    go_wp2
    go_ret
    exact ⟨ret_int (by simp [byt]), rfl⟩
  · go_enter Tryz.func115, Tryz.ntmps115
    go_wp2
    go_ret
    exact ⟨ret_int (by simp [byt]), rfl⟩
  · go_enter Tryz.func115, Tryz.ntmps115
    go_wp2
    go_ret
    exact ⟨ret_int (by simp [byt]; omega), rfl⟩

end Go.Proofs.YtmobologlaeefaaGreat

/-
  What textEnd of the words package returns: where the first byte 0 lies, or that there is none.
-/
namespace Go.Proofs.YtmobologlaeefaaGreat
open Go.RowKit
set_option maxRecDepth 10000

set_option maxHeartbeats 1000000 in
theorem textEnd_none (a : Option Addr) (n cap : Nat) (zs : List Int) (w : World) (ha : View .u32 w a zs) (hl : zs.length = n) (hw : Within 4294967296 zs) (hn : 4 * n ≤ 281474976710656) (h : ∀ i, i < 4 * n → nth (joinL zs) i ≠ 0) :
    Calls Tryz.prog 199 #[.slice a n cap] w fun e w' => e = .returned (.tuple #[.int .i64 0, .int .i64 0, .bool false]) ∧ w = w' := by
  have HL : Hid (zs.length = n) := hl
  clear hl
  have HB : Hid (∀ k p : Nat, k < n → p < 4 → byt (nth zs k) p ≠ 0) := fun k p hk hp => by
    have := h (4 * k + p) (by omega)
    rw [joinL_getD _ _ (by rw [HL.out]; omega), show (4 * k + p) / 4 = k by omega, show (4 * k + p) % 4 = p by omega] at this
    exact this
  clear h
  go_enter Tryz.func199, Tryz.ntmps199
  go_wp2
  go_step3
  go_wp2
  go_step3
  go_wp2
  go_loop [2, 3, 4, 10] (fun r s f i => ∃ k : Nat, k ≤ n ∧ i = .int .i64 k ∧ r = .int .i64 0 ∧ s = .int .i64 0 ∧ f = .bool false) (fun _ _ _ i => n - (intOf i).toNat)
  case atStart => exact ⟨0, Nat.zero_le _, rfl, rfl, rfl, rfl⟩
  case round =>
    obtain ⟨k, hk, rfl, rfl, rfl, rfl⟩ := hrel
    by_cases hlt : k < n
    · obtain ⟨b, off, rfl, _, hc⟩ := ha k (by rw [HL.out]; exact hlt)
      have hx := hw.at (k := k) (by rw [HL.out]; exact hlt)
      have HX : Hid (∀ p : Nat, p < 4 → byt (nth zs k) p ≠ 0) := fun p hp => HB.out k p hlt hp
      generalize nth zs k = x at hc hx HX
      have hx0 := hx.1
      have hx1 := hx.2
      clear hx ha
      go_wp2
      go_loop [2, 3, 4, 15] (fun r s f i => ∃ p : Nat, p ≤ 4 ∧ i = .int .i64 p ∧ r = .int .i64 0 ∧ s = .int .i64 0 ∧ f = .bool false) (fun _ _ _ i => 4 - (intOf i).toNat)
      case atStart => exact ⟨0, Nat.zero_le _, rfl, rfl, rfl, rfl⟩
      case round =>
        obtain ⟨p, hp, rfl, rfl, rfl, rfl⟩ := hrel
        by_cases hplt : p < 4
        · have hne : (byt x p == 0) = false := by simp; exact HX.out p hplt
          have hA := fun wx => byteAt_any x (p : Int) wx hx0 hx1 (by omega) (by omega)
          rw [Int.toNat_natCast] at hA
          generalize byt x p = y at hne hA
          go_wp2_with (go_at_call 115; refine (hA _).mono ?_; rintro e w' ⟨rfl, rfl⟩)
          go_round
          case rel => exact ⟨p + 1, by omega, by go_num, rfl, rfl, rfl⟩
          case measure => simp [intOf]; omega
        · go_wp2
          go_round
          case rel => exact ⟨k + 1, by omega, by go_num, rfl, rfl, rfl⟩
          case measure => simp [intOf]; omega
    · go_wp2
      try rw [Exit.noGoto_ret]
      go_ret3
      exact ⟨rfl, rfl⟩

set_option maxHeartbeats 1000000 in
theorem textEnd_at (a : Option Addr) (n cap : Nat) (zs : List Int) (w : World) (L P : Nat) (ha : View .u32 w a zs) (hl : zs.length = n) (hw : Within 4294967296 zs) (hn : 4 * n ≤ 281474976710656)
    (hL : L < n) (hP : P < 4) (h : ∀ i, i < 4 * L + P → nth (joinL zs) i ≠ 0) (h0 : nth (joinL zs) (4 * L + P) = 0) :
    Calls Tryz.prog 199 #[.slice a n cap] w fun e w' => e = .returned (.tuple #[.int .i64 L, .int .i64 P, .bool true]) ∧ w = w' := by
  have HL : Hid (zs.length = n) := hl
  clear hl
  have HB : Hid (∀ k p : Nat, 4 * k + p < 4 * L + P → p < 4 → byt (nth zs k) p ≠ 0) := fun k p hk hp => by
    have := h (4 * k + p) hk
    rw [joinL_getD _ _ (by rw [HL.out]; omega), show (4 * k + p) / 4 = k by omega, show (4 * k + p) % 4 = p by omega] at this
    exact this
  have H0 : Hid (byt (nth zs L) P = 0) := by
    rw [joinL_getD _ _ (by rw [HL.out]; omega), show (4 * L + P) / 4 = L by omega, show (4 * L + P) % 4 = P by omega] at h0
    exact h0
  clear h h0
  go_enter Tryz.func199, Tryz.ntmps199
  go_wp2
  go_step3
  go_wp2
  go_step3
  go_wp2
  go_loop [2, 3, 4, 10] (fun r s f i => ∃ k : Nat, k ≤ L ∧ i = .int .i64 k ∧ r = .int .i64 0 ∧ s = .int .i64 0 ∧ f = .bool false) (fun _ _ _ i => n - (intOf i).toNat)
  case atStart => exact ⟨0, Nat.zero_le _, rfl, rfl, rfl, rfl⟩
  case round =>
    obtain ⟨k, hk, rfl, rfl, rfl, rfl⟩ := hrel
    have hlt : k < n := by omega
    obtain ⟨b, off, rfl, _, hc⟩ := ha k (by rw [HL.out]; exact hlt)
    have hx := hw.at (k := k) (by rw [HL.out]; exact hlt)
    have HX : Hid (∀ p : Nat, 4 * k + p < 4 * L + P → p < 4 → byt (nth zs k) p ≠ 0) := fun p hp h4 => HB.out k p hp h4
    have HX0 : Hid (k = L → byt (nth zs k) P = 0) := fun e => by rw [e]; exact H0.out
    generalize nth zs k = x at hc hx HX HX0
    have hx0 := hx.1
    have hx1 := hx.2
    clear hx ha
    go_wp2
    go_loop [2, 3, 4, 15] (fun r s f i => ∃ p : Nat, p ≤ 4 ∧ 4 * k + p ≤ 4 * L + P ∧ i = .int .i64 p ∧ r = .int .i64 0 ∧ s = .int .i64 0 ∧ f = .bool false) (fun _ _ _ i => 4 - (intOf i).toNat)
    case atStart => exact ⟨0, Nat.zero_le _, by omega, rfl, rfl, rfl, rfl⟩
    case round =>
      obtain ⟨p, hp, hpN, rfl, rfl, rfl, rfl⟩ := hrel
      by_cases hplt : p < 4
      · by_cases hlast : 4 * k + p < 4 * L + P
        · have hne : (byt x p == 0) = false := by simp; exact HX.out p hlast hplt
          have hA := fun wx => byteAt_any x (p : Int) wx hx0 hx1 (by omega) (by omega)
          rw [Int.toNat_natCast] at hA
          generalize byt x p = y at hne hA
          go_wp2_with (go_at_call 115; refine (hA _).mono ?_; rintro e w' ⟨rfl, rfl⟩)
          go_round
          case rel => exact ⟨p + 1, by omega, by omega, by go_num, rfl, rfl, rfl⟩
          case measure => simp [intOf]; omega
        · obtain rfl : k = L := by omega
          obtain rfl : p = P := by omega
          have hA := fun wx => byteAt_any x (p : Int) wx hx0 hx1 (by omega) (by omega)
          rw [Int.toNat_natCast, HX0.out rfl] at hA
          go_wp2_with (go_at_call 115; refine (hA _).mono ?_; rintro e w' ⟨rfl, rfl⟩)
          try rw [Exit.noGoto_ret]
          go_ret3
          exact ⟨rfl, rfl⟩
      · go_wp2
        go_round
        case rel => exact ⟨k + 1, by omega, by go_num, rfl, rfl, rfl⟩
        case measure => simp [intOf]; omega

end Go.Proofs.YtmobologlaeefaaGreat

/-
  What the methods of wanted return, of the layer asm: an argument of a text, or what is wrong with it.
-/
namespace Go.Proofs.YtmobologlaeefaaGreat
open Go.RowKit
set_option linter.unusedVariables false
set_option linter.unusedSimpArgs false
set_option maxRecDepth 10000

/-- The boxes of a method of wanted. -/
theorem want_boxes (w : World) (c b : Int) : ((w.alloc (.cells #[.int .u8 c, .int .u32 b] 234)).alloc (.cells #[.int .u8 0, .int .u32 0, .string ⟨#[]⟩] 81)).heap[w.heap.size]? = some (.cells #[.int .u8 c, .int .u32 b] 234 (0, 0)) ∧ ((w.alloc (.cells #[.int .u8 c, .int .u32 b] 234)).alloc (.cells #[.int .u8 0, .int .u32 0, .string ⟨#[]⟩] 81)).heap[w.heap.size + 1]? = some (.cells #[.int .u8 0, .int .u32 0, .string ⟨#[]⟩] 81 (0, 0)) ∧ Below w.heap.size w ((w.alloc (.cells #[.int .u8 c, .int .u32 b] 234)).alloc (.cells #[.int .u8 0, .int .u32 0, .string ⟨#[]⟩] 81)) :=
  ⟨(Below.heap_alloc _ _ _ (by simp)).trans (heap_alloc_new w _), by simpa using heap_alloc_new (w.alloc (.cells #[.int .u8 c, .int .u32 b] 234)) (.cells #[.int .u8 0, .int .u32 0, .string ⟨#[]⟩] 81), ((Below.refl _ w).alloc (Nat.le_refl _) _).alloc (by simp) _⟩
theorem arg_put {W : World} {g T : Nat} {x0 x1 x2 : Value} (k : W.heap[g]? = some (.cells #[x0, x1, x2] T (0, 0))) (u0 u1 u2 : Value) : (((W.setCell ⟨g, 0, none⟩ u0).setCell ⟨g, 1, none⟩ u1).setCell ⟨g, 2, none⟩ u2).heap[g]? = some (.cells #[u0, u1, u2] T (0, 0)) ∧ Below g W (((W.setCell ⟨g, 0, none⟩ u0).setCell ⟨g, 1, none⟩ u1).setCell ⟨g, 2, none⟩ u2) :=
  ⟨three_setA k u0 u1 u2, (((Below.refl g W).setCell (Nat.le_refl _) _).setCell (Nat.le_refl _) _).setCell (Nat.le_refl _) _⟩

set_option maxHeartbeats 2000000 in
theorem wantNone_any (c b : Int) (s : ByteArray) (w : World) :
    Calls Tryz.prog 179 #[.agg #[.int .u8 c, .int .u32 b], .string s] w fun e w' => e = .returned (.tuple #[argV noArg, .int .i64 70]) ∧ Below w.heap.size w w' := by
  obtain ⟨k0, k1, hb⟩ := want_boxes w c b
  go_enter Tryz.func179, Tryz.ntmps179
  go_wp2
  refine bodyPost_ret (v := .tuple #[argV noArg, .int .i64 70]) ?_ rfl ⟨rfl, hb⟩
  simp [results, Tryz.results179, go_sem, argV, noArg]

set_option maxHeartbeats 2000000 in
theorem wantNumber_any (c b : Int) (s : ByteArray) (w : World) (hs : s.size ≤ 140737488351232) :
    Calls Tryz.prog 176 #[.agg #[.int .u8 c, .int .u32 b], .string s] w fun e w' => e = .returned (.tuple #[argV (if numErr (strI s) = 0 then (2, numV (strI s), ⟨#[]⟩) else noArg), .int .i64 (numErr (strI s))]) ∧ Below w.heap.size w w' := by
  obtain ⟨k0, k1, hb⟩ := want_boxes w c b
  have hN := fun wx => lexNumber_any s wx hs
  have HV := hide (fun h => (numV_ok (numErr_zero (l := strI s) h)).2.1)
  obtain ⟨A, hA⟩ : ∃ A, A = (if numErr (strI s) = 0 then (2, numV (strI s), ⟨#[]⟩) else noArg : ArgT) := ⟨_, rfl⟩
  rw [← hA]
  generalize numErr (strI s) = ne at *
  generalize numOut (strI s) = no at *
  have HA := hide hA
  have HK := hide k1
  have HB := hide hb
  clear hA k0 k1 hb
  go_enter Tryz.func176, Tryz.ntmps176
  go_wp2_with fail
  generalize (w.alloc (.cells #[.int .u8 c, .int .u32 b] 234)).alloc (.cells #[.int .u8 0, .int .u32 0, .string ⟨#[]⟩] 81) = W at *
  refine (hN _).mono ?_
  rintro x w' ⟨rfl, rfl⟩
  obtain ⟨cc, cf⟩ := blk_cells HK.out
  have c0 := cc 0
  have c1 := cc 1
  have c2 := cc 2
  by_cases h : ne = 0
  · subst h
    have e9 := HA.out
    rw [if_pos rfl, ← HV.out (by trivial)] at e9
    subst e9
    obtain ⟨x1, x2⟩ := arg_put HK.out (.int .u8 2) (.int .u32 no) (.string ⟨#[]⟩)
    have HY := hide (HB.out.trans (x2.mono (by omega)))
    have HY1 := hide x1
    clear x1 x2 hN HK HB HA HV cc
    go_wp2_with fail
    generalize ((W.setCell ⟨w.heap.size + 1, 0, none⟩ (.int .u8 2)).setCell ⟨w.heap.size + 1, 1, none⟩ (.int .u32 no)).setCell ⟨w.heap.size + 1, 2, none⟩ (.string ⟨#[]⟩) = X at *
    obtain ⟨e1, _⟩ := blk_cells HY1.out
    have a0 := e1 0
    have a1 := e1 1
    have a2 := e1 2
    refine bodyPost_ret (v := .tuple #[argV (2, no, ⟨#[]⟩), .int .i64 0]) ?_ rfl ⟨rfl, HY.out⟩
    simp [results, Tryz.results176, go_sem, argV, a0, a1, a2]
  · have h' : (ne != 0) = true := by simp [h]
    have e9 := HA.out
    rw [if_neg h] at e9
    subst e9
    obtain ⟨x1, x2⟩ := arg_put HK.out (.int .u8 0) (.int .u32 0) (.string ⟨#[]⟩)
    have HY := hide (HB.out.trans (x2.mono (by omega)))
    have HY1 := hide x1
    clear x1 x2 hN HK HB HA HV cc h
    go_wp2_with fail
    generalize ((W.setCell ⟨w.heap.size + 1, 0, none⟩ (.int .u8 0)).setCell ⟨w.heap.size + 1, 1, none⟩ (.int .u32 0)).setCell ⟨w.heap.size + 1, 2, none⟩ (.string ⟨#[]⟩) = X at *
    obtain ⟨e1, _⟩ := blk_cells HY1.out
    have a0 := e1 0
    have a1 := e1 1
    have a2 := e1 2
    refine bodyPost_ret (v := .tuple #[argV noArg, .int .i64 ne]) ?_ rfl ⟨rfl, HY.out⟩
    simp [results, Tryz.results176, go_sem, argV, noArg, a0, a1, a2]

set_option maxHeartbeats 2000000 in
theorem wantId_any (c b : Int) (s : ByteArray) (w : World) (hs : s.size ≤ 140737488351232) :
    Calls Tryz.prog 155 #[.agg #[.int .u8 c, .int .u32 b], .string s] w fun e w' => e = .returned (.tuple #[argV (if idP s b = 0 then (1, numV (strI s), ⟨#[]⟩) else noArg), .int .i64 (idP s b)]) ∧ Below w.heap.size w w' := by
  obtain ⟨k0, k1, hb⟩ := want_boxes w c b
  have hN := fun wx => lexNumber_any s wx hs
  have HV := hide (fun h => (numV_ok (numErr_zero (l := strI s) h)))
  obtain ⟨A, hA⟩ : ∃ A, A = (if idP s b = 0 then (1, numV (strI s), ⟨#[]⟩) else noArg : ArgT) := ⟨_, rfl⟩
  obtain ⟨I, hI⟩ : ∃ I, I = idP s b := ⟨_, rfl⟩
  rw [← hA, ← hI]
  rw [← hI] at hA
  have hI2 : (numErr (strI s) ≠ 0 → I = 62 ∧ numErr (strI s) = 62) ∧ (numErr (strI s) = 0 → I = if numV (strI s) = 0 ∨ b ≤ numV (strI s) then 43 else 0) := by
    rw [hI]; unfold idP
    constructor
    · intro h
      have hb : numB (strI s) = false := by
        cases e : numB (strI s) with
        | false => rfl
        | true => exact absurd (numV_ok e).1 h
      rw [if_pos hb]
      refine ⟨rfl, ?_⟩
      unfold numErr; rw [hb]; rfl
    · intro h
      rw [if_neg (by rw [numErr_zero h]; simp)]
  have HI2 := hide hI2
  clear hI hI2
  generalize numErr (strI s) = ne at *
  generalize numOut (strI s) = no at *
  have HA := hide hA
  have HK := hide k1
  have HB := hide hb
  have HK0 := hide k0
  clear hA k0 k1 hb
  go_enter Tryz.func155, Tryz.ntmps155
  go_wp2_with fail
  generalize (w.alloc (.cells #[.int .u8 c, .int .u32 b] 234)).alloc (.cells #[.int .u8 0, .int .u32 0, .string ⟨#[]⟩] 81) = W at *
  refine (hN _).mono ?_
  rintro x w' ⟨rfl, rfl⟩
  obtain ⟨cc, cf⟩ := blk_cells HK.out
  have c0 := cc 0
  have c1 := cc 1
  have c2 := cc 2
  have d1 := (blk_cells HK0.out).1 1
  clear hN HK0
  by_cases h : ne = 0
  · subst h
    obtain ⟨_, f2, f3, f4⟩ := HV.out (by trivial)
    have hi := HI2.out.2 (by trivial)
    rw [← f2] at hi f3 f4
    have HF2 := hide f2
    clear HV HI2 f2
    by_cases hbad : no = 0 ∨ b ≤ no
    · rw [if_pos hbad] at hi
      subst hi
      have e9 := HA.out
      rw [if_neg (by decide)] at e9
      subst e9
      by_cases h0 : no = 0
      · subst h0
        clear hbad
        obtain ⟨x1, x2⟩ := arg_put HK.out (.int .u8 0) (.int .u32 0) (.string ⟨#[]⟩)
        have HY := hide (HB.out.trans (x2.mono (by omega)))
        have HY1 := hide x1
        clear x1 x2 HK HB HA cc
        go_wp2_with fail
        generalize ((W.setCell ⟨w.heap.size + 1, 0, none⟩ (.int .u8 0)).setCell ⟨w.heap.size + 1, 1, none⟩ (.int .u32 0)).setCell ⟨w.heap.size + 1, 2, none⟩ (.string ⟨#[]⟩) = X at *
        obtain ⟨e1, _⟩ := blk_cells HY1.out
        have a0 := e1 0
        have a1 := e1 1
        have a2 := e1 2
        refine bodyPost_ret (v := .tuple #[argV noArg, .int .i64 43]) ?_ rfl ⟨rfl, HY.out⟩
        simp [results, Tryz.results155, go_sem, argV, noArg, a0, a1, a2]
      · have h0' : (no == 0) = false := by simpa using h0
        have h1' : decide (b ≤ no) = true := decide_eq_true (by omega)
        clear hbad h0
        obtain ⟨x1, x2⟩ := arg_put HK.out (.int .u8 0) (.int .u32 0) (.string ⟨#[]⟩)
        have HY := hide (HB.out.trans (x2.mono (by omega)))
        have HY1 := hide x1
        clear x1 x2 HK HB HA cc
        go_wp2_with fail
        generalize ((W.setCell ⟨w.heap.size + 1, 0, none⟩ (.int .u8 0)).setCell ⟨w.heap.size + 1, 1, none⟩ (.int .u32 0)).setCell ⟨w.heap.size + 1, 2, none⟩ (.string ⟨#[]⟩) = X at *
        obtain ⟨e1, _⟩ := blk_cells HY1.out
        have a0 := e1 0
        have a1 := e1 1
        have a2 := e1 2
        refine bodyPost_ret (v := .tuple #[argV noArg, .int .i64 43]) ?_ rfl ⟨rfl, HY.out⟩
        simp [results, Tryz.results155, go_sem, argV, noArg, a0, a1, a2]
    · rw [if_neg hbad] at hi
      subst hi
      have e9 := HA.out
      rw [if_pos rfl, ← HF2.out] at e9
      subst e9
      have h0' : (no == 0) = false := by simp; omega
      have h1' : decide (b ≤ no) = false := decide_eq_false (by omega)
      clear hbad
      obtain ⟨x1, x2⟩ := arg_put HK.out (.int .u8 1) (.int .u32 no) (.string ⟨#[]⟩)
      have HY := hide (HB.out.trans (x2.mono (by omega)))
      have HY1 := hide x1
      clear x1 x2 HK HB HA cc
      go_wp2_with fail
      generalize ((W.setCell ⟨w.heap.size + 1, 0, none⟩ (.int .u8 1)).setCell ⟨w.heap.size + 1, 1, none⟩ (.int .u32 no)).setCell ⟨w.heap.size + 1, 2, none⟩ (.string ⟨#[]⟩) = X at *
      obtain ⟨e1, _⟩ := blk_cells HY1.out
      have a0 := e1 0
      have a1 := e1 1
      have a2 := e1 2
      refine bodyPost_ret (v := .tuple #[argV (1, no, ⟨#[]⟩), .int .i64 0]) ?_ rfl ⟨rfl, HY.out⟩
      simp [results, Tryz.results155, go_sem, argV, noArg, a0, a1, a2]
  · have h' : (ne != 0) = true := by simp [h]
    obtain ⟨hi, rfl⟩ := HI2.out.1 h
    subst hi
    have e9 := HA.out
    rw [if_neg (by decide)] at e9
    subst e9
    clear h HI2 HV
    obtain ⟨x1, x2⟩ := arg_put HK.out (.int .u8 0) (.int .u32 0) (.string ⟨#[]⟩)
    have HY := hide (HB.out.trans (x2.mono (by omega)))
    have HY1 := hide x1
    clear x1 x2 HK HB HA cc
    go_wp2_with fail
    generalize ((W.setCell ⟨w.heap.size + 1, 0, none⟩ (.int .u8 0)).setCell ⟨w.heap.size + 1, 1, none⟩ (.int .u32 0)).setCell ⟨w.heap.size + 1, 2, none⟩ (.string ⟨#[]⟩) = X at *
    obtain ⟨e1, _⟩ := blk_cells HY1.out
    have a0 := e1 0
    have a1 := e1 1
    have a2 := e1 2
    refine bodyPost_ret (v := .tuple #[argV noArg, .int .i64 62]) ?_ rfl ⟨rfl, HY.out⟩
    simp [results, Tryz.results155, go_sem, argV, noArg, a0, a1, a2]

set_option maxHeartbeats 2000000 in
theorem wantEnum_any (c b : Int) (s : ByteArray) (w : World) :
    Calls Tryz.prog 178 #[.agg #[.int .u8 c, .int .u32 b], .string s] w fun e w' => e = .returned (.tuple #[argV (if enumNB c s = true then (4, enumN c s, ⟨#[]⟩) else noArg), .int .i64 (if enumNB c s = true then 0 else 71)]) ∧ Below w.heap.size w w' := by
  obtain ⟨k0, k1, hb⟩ := want_boxes w c b
  have hN := fun wx => enumNamed_any c s wx
  obtain ⟨A, hA⟩ : ∃ A, A = (if enumNB c s = true then (4, enumN c s, ⟨#[]⟩) else noArg : ArgT) := ⟨_, rfl⟩
  obtain ⟨I, hI⟩ : ∃ I, I = (if enumNB c s = true then 0 else 71 : Int) := ⟨_, rfl⟩
  rw [← hA, ← hI]
  generalize enumNB c s = eb at *
  generalize enumN c s = en at *
  have HA0 := hide hA
  have HI := hide hI
  have HK0 := hide k1
  have HB0 := hide hb
  clear hA hI k0 k1 hb
  go_enter Tryz.func178, Tryz.ntmps178
  go_wp2_with fail
  generalize (w.alloc (.cells #[.int .u8 c, .int .u32 b] 234)).alloc (.cells #[.int .u8 0, .int .u32 0, .string ⟨#[]⟩] 81) = W0 at *
  refine (hN _).mono ?_
  rintro x W ⟨rfl, hbw⟩
  have HK := hide ((hbw.block _ (Array.getElem?_eq_some_iff.1 HK0.out).1).trans HK0.out)
  have HB := hide (HB0.out.trans (hbw.mono HB0.out.size))
  obtain ⟨cc, cf⟩ := blk_cells HK.out
  have c0 := cc 0
  have c1 := cc 1
  have c2 := cc 2
  clear hN HK0 HB0 hbw
  have HA := HA0
  cases eb
  · have e9 := HA.out
    have e8 := HI.out
    rw [if_neg (by decide)] at e9 e8
    subst e9 e8
    clear HA0 HI
    obtain ⟨x1, x2⟩ := arg_put HK.out (.int .u8 0) (.int .u32 0) (.string ⟨#[]⟩)
    have HY := hide (HB.out.trans (x2.mono (by omega)))
    have HY1 := hide x1
    clear x1 x2 HK HB HA cc
    go_wp2_with fail
    generalize ((W.setCell ⟨w.heap.size + 1, 0, none⟩ (.int .u8 0)).setCell ⟨w.heap.size + 1, 1, none⟩ (.int .u32 0)).setCell ⟨w.heap.size + 1, 2, none⟩ (.string ⟨#[]⟩) = X at *
    obtain ⟨e1, _⟩ := blk_cells HY1.out
    have a0 := e1 0
    have a1 := e1 1
    have a2 := e1 2
    refine bodyPost_ret (v := .tuple #[argV noArg, .int .i64 71]) ?_ rfl ⟨rfl, HY.out⟩
    simp [results, Tryz.results178, go_sem, argV, noArg, a0, a1, a2]
  · have e9 := HA.out
    have e8 := HI.out
    rw [if_pos rfl] at e9 e8
    subst e9 e8
    clear HA0 HI
    obtain ⟨x1, x2⟩ := arg_put HK.out (.int .u8 4) (.int .u32 en) (.string ⟨#[]⟩)
    have HY := hide (HB.out.trans (x2.mono (by omega)))
    have HY1 := hide x1
    clear x1 x2 HK HB HA cc
    go_wp2_with fail
    generalize ((W.setCell ⟨w.heap.size + 1, 0, none⟩ (.int .u8 4)).setCell ⟨w.heap.size + 1, 1, none⟩ (.int .u32 en)).setCell ⟨w.heap.size + 1, 2, none⟩ (.string ⟨#[]⟩) = X at *
    obtain ⟨e1, _⟩ := blk_cells HY1.out
    have a0 := e1 0
    have a1 := e1 1
    have a2 := e1 2
    refine bodyPost_ret (v := .tuple #[argV (4, en, ⟨#[]⟩), .int .i64 0]) ?_ rfl ⟨rfl, HY.out⟩
    simp [results, Tryz.results178, go_sem, argV, noArg, a0, a1, a2]

theorem nul_index (s : ByteArray) : decide ((0 : Int) ≤ Lib.indexByte s.data.toList (0 : Int).toNat.toUInt8) = nulS s := by
  cases e : nulS s with
  | false =>
    rw [index_none s (nulS_false.1 e)]; rfl
  | true =>
    obtain ⟨k, hk, h0⟩ := nulS_true e
    apply decide_eq_true
    apply Classical.byContradiction
    intro hn
    have h1 := Lib.indexByte_ge s.data.toList (0 : Int).toNat.toUInt8
    have h2 : Lib.indexByte s.data.toList (0 : Int).toNat.toUInt8 = -1 := by omega
    have h3 := Lib.indexByte_none h2 k
    apply h3
    rw [nth_strI s k hk] at h0
    have hl : k < s.data.toList.length := by rw [size_list]; exact hk
    rw [List.getElem?_eq_getElem hl]
    have e2 : s.data.toList[k] = s[k] := rfl
    rw [e2]
    congr 1
    apply UInt8.toNat_inj.1
    simp; omega

set_option maxHeartbeats 2000000 in
theorem wantText_any (c b : Int) (s : ByteArray) (w : World) :
    Calls Tryz.prog 177 #[.agg #[.int .u8 c, .int .u32 b], .string s] w fun e w' => e = .returned (.tuple #[argV (if nulS s = true then noArg else (3, 0, s)), .int .i64 (if nulS s = true then 13 else 0)]) ∧ Below w.heap.size w w' := by
  obtain ⟨k0, k1, hb⟩ := want_boxes w c b
  have hN := fun wx => indexByte_any s wx
  have hd := nul_index s
  obtain ⟨A, hA⟩ : ∃ A, A = (if nulS s = true then noArg else (3, 0, s) : ArgT) := ⟨_, rfl⟩
  obtain ⟨I, hI⟩ : ∃ I, I = (if nulS s = true then 13 else 0 : Int) := ⟨_, rfl⟩
  rw [← hA, ← hI]
  generalize Lib.indexByte s.data.toList (0 : Int).toNat.toUInt8 = ib at *
  generalize nulS s = eb at *
  have HA := hide hA
  have HI := hide hI
  have HK := hide k1
  have HB := hide hb
  clear hA hI k0 k1 hb
  go_enter Tryz.func177, Tryz.ntmps177
  go_wp2_with fail
  generalize (w.alloc (.cells #[.int .u8 c, .int .u32 b] 234)).alloc (.cells #[.int .u8 0, .int .u32 0, .string ⟨#[]⟩] 81) = W at *
  refine (hN _).mono ?_
  rintro x w' ⟨rfl, rfl⟩
  obtain ⟨cc, cf⟩ := blk_cells HK.out
  have c0 := cc 0
  have c1 := cc 1
  have c2 := cc 2
  clear hN
  cases eb
  · have e9 := HA.out
    have e8 := HI.out
    rw [if_neg (by decide)] at e9 e8
    subst e9 e8
    clear HI
    obtain ⟨x1, x2⟩ := arg_put HK.out (.int .u8 3) (.int .u32 0) (.string s)
    have HY := hide (HB.out.trans (x2.mono (by omega)))
    have HY1 := hide x1
    clear x1 x2 HK HB HA cc
    go_wp2_with fail
    generalize ((W.setCell ⟨w.heap.size + 1, 0, none⟩ (.int .u8 3)).setCell ⟨w.heap.size + 1, 1, none⟩ (.int .u32 0)).setCell ⟨w.heap.size + 1, 2, none⟩ (.string s) = X at *
    obtain ⟨e1, _⟩ := blk_cells HY1.out
    have a0 := e1 0
    have a1 := e1 1
    have a2 := e1 2
    refine bodyPost_ret (v := .tuple #[argV (3, 0, s), .int .i64 0]) ?_ rfl ⟨rfl, HY.out⟩
    simp [results, Tryz.results177, go_sem, argV, noArg, a0, a1, a2]
  · have e9 := HA.out
    have e8 := HI.out
    rw [if_pos rfl] at e9 e8
    subst e9 e8
    clear HI
    obtain ⟨x1, x2⟩ := arg_put HK.out (.int .u8 0) (.int .u32 0) (.string ⟨#[]⟩)
    have HY := hide (HB.out.trans (x2.mono (by omega)))
    have HY1 := hide x1
    clear x1 x2 HK HB HA cc
    go_wp2_with fail
    generalize ((W.setCell ⟨w.heap.size + 1, 0, none⟩ (.int .u8 0)).setCell ⟨w.heap.size + 1, 1, none⟩ (.int .u32 0)).setCell ⟨w.heap.size + 1, 2, none⟩ (.string ⟨#[]⟩) = X at *
    obtain ⟨e1, _⟩ := blk_cells HY1.out
    have a0 := e1 0
    have a1 := e1 1
    have a2 := e1 2
    refine bodyPost_ret (v := .tuple #[argV noArg, .int .i64 13]) ?_ rfl ⟨rfl, HY.out⟩
    simp [results, Tryz.results177, go_sem, argV, noArg, a0, a1, a2]

/-- The method that takes an argument of a letter. -/
def takerN (c : Int) : Nat := if kindI c = 1 then 155 else if kindI c = 2 then 176 else if kindI c = 3 then 177 else if kindI c = 4 then 178 else 179
theorem taken_any (c b : Int) (s : ByteArray) (w : World) (hs : s.size ≤ 140737488351232) :
    Calls Tryz.prog (takerN c) #[.agg #[.int .u8 c, .int .u32 b], .string s] w fun e w' => e = .returned (.tuple #[argV (txtA c s b), .int .i64 (txtE c s b)]) ∧ Below w.heap.size w w' := by
  unfold takerN
  by_cases h1 : kindI c = 1
  · have e1 : txtE c s b = idP s b := by unfold txtE; rw [if_pos h1]
    have e2 : txtA c s b = if idP s b = 0 then (1, numV (strI s), ⟨#[]⟩) else noArg := by
      unfold txtA; rw [e1, if_pos h1]; by_cases h0 : idP s b = 0 <;> simp [h0]
    rw [if_pos h1, e1, e2]; exact wantId_any c b s w hs
  · rw [if_neg h1]
    by_cases h2 : kindI c = 2
    · have e1 : txtE c s b = numErr (strI s) := by unfold txtE; rw [if_neg h1, if_pos h2]
      have e2 : txtA c s b = if numErr (strI s) = 0 then (2, numV (strI s), ⟨#[]⟩) else noArg := by
        unfold txtA; rw [e1, if_neg h1, if_pos h2]; by_cases h0 : numErr (strI s) = 0 <;> simp [h0]
      rw [if_pos h2, e1, e2]; exact wantNumber_any c b s w hs
    · rw [if_neg h2]
      by_cases h3 : kindI c = 3
      · have e1 : txtE c s b = if nulS s = true then 13 else 0 := by unfold txtE; rw [if_neg h1, if_neg h2, if_pos h3]
        have e2 : txtA c s b = if nulS s = true then noArg else (3, 0, s) := by
          unfold txtA; rw [e1, if_neg h1, if_neg h2, if_pos h3]; cases nulS s <;> simp
        rw [if_pos h3, e1, e2]; exact wantText_any c b s w
      · rw [if_neg h3]
        by_cases h4 : kindI c = 4
        · have e1 : txtE c s b = if enumNB c s = true then 0 else 71 := by unfold txtE; rw [if_neg h1, if_neg h2, if_neg h3, if_pos h4]
          have e2 : txtA c s b = if enumNB c s = true then (4, enumN c s, ⟨#[]⟩) else noArg := by
            unfold txtA; rw [e1, if_neg h1, if_neg h2, if_neg h3]; cases enumNB c s <;> simp
          rw [if_pos h4, e1, e2]; exact wantEnum_any c b s w
        · have e1 : txtE c s b = 70 := by unfold txtE; rw [if_neg h1, if_neg h2, if_neg h3, if_neg h4]
          have e2 : txtA c s b = noArg := by unfold txtA; rw [e1, if_pos (by decide)]
          rw [if_neg h4, e1, e2]; exact wantNone_any c b s w

set_option maxHeartbeats 4000000 in
theorem taker_any7 (c b : Int) (w : World) :
    Calls Tryz.prog 156 #[.agg #[.int .u8 c, .int .u32 b]] w fun e w' => e = .returned (.tuple #[.int .u8 (takeK c), .func (.func (takerN c)) #[.agg #[.int .u8 c, .int .u32 b]] #[]]) ∧ Below w.heap.size w w' := by
  have hK := fun wx => kind_any c wx
  have hT := takerN
  unfold takeK takerN
  have hr := kindI_most c
  generalize kindI c = kd at *
  have hb : Below w.heap.size w (w.alloc (.cells #[.int .u8 c, .int .u32 b] 234)) := (Below.refl _ w).alloc (Nat.le_refl _) _
  have hkd : kd = 0 ∨ kd = 1 ∨ kd = 2 ∨ kd = 3 ∨ kd = 4 := by omega
  clear hr hT
  rcases hkd with rfl | rfl | rfl | rfl | rfl
  all_goals
    simp only [if_pos, if_neg, reduceIte, Int.reduceEq]
    go_enter Tryz.func156, Tryz.ntmps156
    go_wp2_with (go_at_call 160; refine (hK _).mono ?_; rintro x w' ⟨rfl, rfl⟩)
    go_region
    go_wp2
    go_ret2
    exact ⟨rfl, hb.drew⟩

end Go.Proofs.YtmobologlaeefaaGreat

/-
  What the method take of a row of tokens returns, of the layer asm: the next token is of another kind.
-/
namespace Go.Proofs.YtmobologlaeefaaGreat
open Go.RowKit
set_option linter.unusedVariables false
set_option linter.unusedSimpArgs false
set_option maxRecDepth 10000

set_option maxHeartbeats 2000000 in
theorem take_wrong (B : Nat) (a : Option Addr) (n c k : Nat) (len : Int) (rest : Array Value) (T : Nat) (l : List TokT) (kd : Int) (w : World) (h : RowAt w B a n c k len rest T) (hv : ToksV w a l) (hl : l.length = n) (hn : 32 * n ≤ 140737488351232) (hk : k < n) (hkd : (nthT l k).1 ≠ kd) :
    Calls Tryz.prog 120 #[.pointer (some ⟨B, 0, none⟩), .int .u8 kd] w fun e w' => e = .returned (.tuple #[tokV noTok, .agg #[.int .i64 70, .int .i64 (nthT l k).2.2]]) ∧ Below w.heap.size w w' := by
  obtain ⟨z, hz⟩ : ∃ z, z = nthT l k := ⟨_, rfl⟩
  rw [← hz] at hkd ⊢
  obtain ⟨z1, z2, z3⟩ := z
  simp only at hkd ⊢
  have HZN := hide hz
  clear hz
  obtain ⟨kT, kS, hb⟩ := tok_spot_boxes w
  have hR := h.below hb
  have hE := ended_any B a n c k len rest T _ hR
  rw [show ((k : Int) == (n : Int)) = false by simp; omega] at hE
  have hlt := h.lt
  have hV := hv.below hb
  clear h hv
  go_enter Tryz.func120, Tryz.ntmps120
  go_wp2_with fail
  generalize (w.alloc (.cells #[.int .u8 0, .string ⟨#[]⟩, .int .i64 0] 102)).alloc (.cells #[.int .i64 0, .int .i64 0] 28) = W at *
  refine hE.mono ?_
  rintro e w1 ⟨rfl, q, rfl⟩
  have hbq := bel_drewN (Below.refl W.heap.size W) q
  have sS := (Array.getElem?_eq_some_iff.1 kS).1
  have kT1 := (hbq.block _ (by omega)).trans kT
  have kS1 := (hbq.block _ sS).trans kS
  have hR1 := hR.below hbq
  have hV1 := hV.below hbq
  have hb1 := hb.trans (hbq.mono hb.size)
  have s1 : w.heap.size + 1 < (W.drewN q).heap.size := Nat.lt_of_lt_of_le sS hbq.size
  clear hE hbq kT kS hR hb sS hV
  generalize W.drewN q = W1 at *
  obtain ⟨r0, r1, r2, rf⟩ := hR1.cells
  obtain ⟨g1, o1, rfl, hg1, q1, q2, q3⟩ := hV1 k (by omega)
  rw [← HZN.out] at q1 q2 q3
  simp only at q1 q2 q3
  clear HZN
  have hki : (k : Int) < (n : Int) := by omega
  have hk0 : (0 : Int) ≤ (k : Int) := by omega
  have hne : B ≠ w.heap.size := by omega
  have hne1 : B ≠ w.heap.size + 1 := by omega
  have HB := hide hb1
  have HT := hide kT1
  have HS := hide kS1
  have HR := hide hR1
  have hB1 : B < W1.heap.size := hR1.lt
  have hkb : (k : Int) < 140737488351232 := by omega
  clear hR1 hb1 kT1 kS1 hV1 hl hn
  go_wp2
  go_region
  have hb2 : Below W1.heap.size W1 (W1.alloc (.cells #[.int .u8 z1, .string z2, .int .i64 z3] 102)).drew := ((Below.refl _ _).alloc (Nat.le_refl _) _).drew
  have kZ : (W1.alloc (.cells #[.int .u8 z1, .string z2, .int .i64 z3] 102)).drew.heap[W1.heap.size]? = some (.cells #[.int .u8 z1, .string z2, .int .i64 z3] 102 (0, 0)) := heap_alloc_new W1 _
  have HT2 := hide ((hb2.block _ (by omega)).trans HT.out)
  have HS2 := hide ((hb2.block _ s1).trans HS.out)
  have HR2 := hide (HR.out.below hb2)
  have HB2 := hide (HB.out.trans (hb2.mono (by omega)))
  have HZ := hide kZ
  have sz : W1.heap.size < (W1.alloc (.cells #[.int .u8 z1, .string z2, .int .i64 z3] 102)).drew.heap.size := (Array.getElem?_eq_some_iff.1 kZ).1
  have s2 : w.heap.size + 1 < W1.heap.size := s1
  clear hb2 kZ HT HS HR HB r0 r1 r2 rf q1 q2 q3 s1 hki hk0 hg1
  generalize (W1.alloc (.cells #[.int .u8 z1, .string z2, .int .i64 z3] 102)).drew = W2 at *
  obtain ⟨cz, fz⟩ := blk_cells HZ.out
  have y0 := cz 0
  have y1 := cz 1
  have y2 := cz 2
  clear cz HZ
  have hkd' : (z1 != kd) = true := by simp [hkd]
  have hFA := fun wx => faultAt_any (z1, z2, z3) 70 wx
  rw [show fltA 70 ((z1, z2, z3) : TokT).2.2 = z3 by unfold fltA; simp] at hFA
  unfold tokV at hFA
  simp only at hFA
  go_wp2_with fail
  refine (hFA _).mono ?_
  rintro e w3 ⟨rfl, hb3⟩
  have kT3 := (hb3.block _ (by omega)).trans HT2.out
  have kS3 := (hb3.block _ (by omega)).trans HS2.out
  have hb03 := HB2.out.trans (hb3.mono HB2.out.size)
  have s3 : w.heap.size + 1 < w3.heap.size := by have := hb3.size; omega
  obtain ⟨ct, ft⟩ := blk_cells kT3
  obtain ⟨cp, fp⟩ := blk_cells kS3
  have t0 := ct 0
  have t1 := ct 1
  have t2 := ct 2
  have p0 := cp 0
  have p1 := cp 1
  obtain ⟨x1, x2, x3⟩ := five_put kT3 kS3 (.int .u8 0) (.string ⟨#[]⟩) (.int .i64 0) (.int .i64 70) (.int .i64 z3)
  have HY := hide (hb03.trans x3)
  have HY1 := hide x1
  have HY2 := hide x2
  clear hFA hb3 hb03 kT3 kS3 ct cp x1 x2 x3 HT2 HS2 HB2 HR2 y0 y1 y2 fz
  go_wp2
  generalize ((((w3.setCell ⟨w.heap.size, 0, none⟩ (.int .u8 0)).setCell ⟨w.heap.size, 1, none⟩ (.string ⟨#[]⟩)).setCell ⟨w.heap.size, 2, none⟩ (.int .i64 0)).setCell ⟨w.heap.size + 1, 0, none⟩ (.int .i64 70)).setCell ⟨w.heap.size + 1, 1, none⟩ (.int .i64 z3) = X at *
  obtain ⟨z1, _⟩ := blk_cells HY1.out
  obtain ⟨z2, _⟩ := blk_cells HY2.out
  have a0 := z1 0
  have a1 := z1 1
  have a2 := z1 2
  have b0 := z2 0
  have b1 := z2 1
  refine bodyPost_ret (v := .tuple #[tokV noTok, .agg #[.int .i64 70, .int .i64 z3]]) ?_ rfl ⟨rfl, HY.out⟩
  simp [results, Tryz.results120, go_sem, a0, a1, a2, b0, b1, tokV, noTok]

end Go.Proofs.YtmobologlaeefaaGreat
